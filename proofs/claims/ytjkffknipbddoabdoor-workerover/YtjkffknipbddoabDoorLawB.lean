/-
  The walk of the law WorkerOver.
-/
import Derived.Test.YtjkffknipbddoabDoorLawP
import Derived.Test.YtjkffknipbddoabDoorSlotsA
namespace Go.Proofs.YtjkffknipbddoabDoor
open Go.RowKit Go.Shelf

theorem owns_mono {w : World} {base base' : Nat} {e : TypeId} {size : Nat} {v : Value} {n : Nat} {xs : List Value} (h : w.ownsRow base e size v n xs) (hb : base' ≤ base) : w.ownsRow base' e size v n xs := by
  refine ⟨h.1, ?_⟩
  rcases h.2 with hn | ⟨g, cap, cur, hv, hbase, hg, rest⟩
  · exact .inl hn
  · exact .inr ⟨g, cap, cur, hv, Nat.le_trans hb hbase, hg, rest⟩

theorem CrewAt.grew {S : Nat → Prop} {w w' : World} {c c' : Nat → Nat} {N E B : Nat} {vW : Value} {C : Nat → Nat} {U : Nat → Value} {n : Nat} {r : List (List Op5)} {X : Nat → Wk} {T : Nat → List Slot4} (h : CrewAt w c N E B vW C U n r X T) (hn : n ≤ 100) (hN : N ≤ w.heap.size) (hg : Grew S w w') (hS : ∀ b, b < w.heap.size → S b → c b = 7) (hc : ∀ b, b < w.heap.size → c' b = c b) : CrewAt w' c' N E B vW C U n r X T := by
  have hE := World.block_lt_of_cell? w _ h.ft
  have hES : ¬ S E := fun e => by have := hS E hE e; have := h.ce; omega
  have hBS : ¬ S B := fun e => by have := hS B h.tab.lt e; have := h.cB; omega
  exact ⟨hg.cell h.ft hES, hg.cell h.fw hES, by rw [hc E hE]; exact h.ce, h.tab.kept (hg.block B h.tab.lt hBS), by rw [hc B h.tab.lt]; exact h.cB, h.ws.grew hn hg (fun b hb e => by have := hS b hb e; omega) hc, fun b hb => by rw [hc b (by omega)]; exact h.low b hb⟩
theorem putW_self (X : Nat → Wk) (k : Nat) : putW X k (X k) = X := by
  funext q; unfold putW; split
  · rename_i e; rw [e]
  · rfl

/-- What was known ahead of a step: a result, and the slots of each key. -/
structure WasAt (w : World) (P : Nat) (T : Nat → List Slot4) (y y0 y1 y2 y3 : Int) : Prop where
  p0 : w.cell? ⟨P, 0, none⟩ = some (.int .i64 y)
  p1 : w.cell? ⟨P, 1, none⟩ = some (.int .i64 y0)
  p2 : w.cell? ⟨P, 2, none⟩ = some (.int .i64 y1)
  p3 : w.cell? ⟨P, 3, none⟩ = some (.int .i64 y2)
  p4 : w.cell? ⟨P, 4, none⟩ = some (.int .i64 y3)
  sl : ∀ q, q < 10 → ∃ u, w.cell? ⟨P + 1, q, none⟩ = some u ∧ w.ownsRow (P + 2) 83 4 u (T q).length (slotCells (T q))
theorem WasAt.grew {S : Nat → Prop} {w w' : World} {P : Nat} {T : Nat → List Slot4} {y y0 y1 y2 y3 : Int} (h : WasAt w P T y y0 y1 y2 y3) (hg : Grew S w w') (hS : ∀ b, S b → b < P) : WasAt w' P T y y0 y1 y2 y3 := by
  have n0 : ¬ S P := fun e => by have := hS P e; omega
  refine ⟨hg.cell h.p0 n0, hg.cell h.p1 n0, hg.cell h.p2 n0, hg.cell h.p3 n0, hg.cell h.p4 n0, fun q hq => ?_⟩
  obtain ⟨u, hu, ho⟩ := h.sl q hq
  exact ⟨u, hg.cell hu (fun e => by have := hS _ e; dsimp only at this; omega), owns_kept ho fun g hgg => hg.block g (owns_lt ho hgg).2 (fun e => by have := hS g e; have := (owns_lt ho hgg).1; omega)⟩
theorem WasAt.later {w w' : World} {P : Nat} {T : Nat → List Slot4} {y y0 y1 y2 y3 : Int} (h : WasAt w P T y y0 y1 y2 y3) (hb : Below w.heap.size w w') : WasAt w' P T y y0 y1 y2 y3 := h.grew (S := fun _ => False) (Grew.of_below hb) (fun _ e => e.elim)

set_option maxRecDepth 100000 in
set_option maxHeartbeats 4000000 in
theorem over_law (v : Value) (r : List (List Op5)) (s : Nat → Int) (a : Option Addr) (cap : Nat) (l : List Int) (w : World) (hr : RoundAt w v r) (hf : Fits r) (hl : NumsAt w (.slice a l.length cap) l) (hmax : l.length ≤ 9223372036854775807) (hL : Lim w) :
    Calls Tryd.prog 5 #[stV s, v, .slice a l.length cap] w fun e w' => e = .returned (.bool true) ∧ Below w.heap.size w w' := by
  show Calls Tryd.prog 5 #[.agg #[.int .i64 (s 0), .int .i64 (s 1), .int .i64 (s 2), .int .i64 (s 3), .int .i64 (s 4), .int .i64 (s 5), .int .i64 (s 6), .int .i64 (s 7), .int .i64 (s 8), .int .i64 (s 9)], _, _] w _
  have hB0 : Below w.heap.size w (w.alloc (.cells #[.int .i64 (s 0), .int .i64 (s 1), .int .i64 (s 2), .int .i64 (s 3), .int .i64 (s 4), .int .i64 (s 5), .int .i64 (s 6), .int .i64 (s 7), .int .i64 (s 8), .int .i64 (s 9)] 23)) := (Below.refl _ _).alloc (Nat.le_refl _) _
  have hX0 := box_new w s
  obtain ⟨a', cap', e1, hcell⟩ := hl
  cases e1
  have HR := hr
  obtain ⟨ra, rcap, rfl, -⟩ := hr
  have hrm := hf.1
  go_enter Tryd.func5, Tryd.ntmps5
  go_wp2_with fail
  refine (begunW_any _ (hL.later hB0)).mono ?_
  rintro e w1 ⟨rfl, hb1⟩
  have hB1 : Below w.heap.size w w1 := hB0.trans (hb1.mono (by simp))
  have hX1 := hX0.later hb1
  clear hB0 hb1 hX0
  go_wp2_with fail
  refine (great_any _ r _ (HR.later hB1) hf).mono ?_
  rintro e w2 ⟨⟨g, rfl⟩, rfl⟩
  cases g
  · by_cases hp : 500 < l.length
    · have hpi : (500 : Int) < (l.length : Int) := by omega
      go_wp2_with fail
      go_ret
      exact ⟨rfl, hB1⟩
    · have hpi : ¬ (500 : Int) < (l.length : Int) := by omega
      go_wp2_with fail
      refine (faults_any _ r _ (HR.later hB1) hf).mono ?_
      rintro e w3 ⟨⟨cc, rfl, hcc⟩, hb3⟩
      have hB3 : Below w.heap.size w w3 := hB1.trans (hb3.mono hB1.size)
      have hX3 := hX1.later hb3
      have HCC : Hid (cc = 0 → roundF r = 0) := hcc
      clear hcc hb3 hX1 hB1
      by_cases h0 : cc = 0
      · have hrf : Hid (roundF r = 0) := HCC.out h0
        subst h0
        by_cases hlen : r.length = 0
        · have hle : ((r.length : Int) == 0) = true := by simp [hlen]
          clear hlen
          go_wp2_with fail
          go_ret
          exact ⟨rfl, hB3⟩
        · have hle : ((r.length : Int) == 0) = false := by rw [beq_eq_false_iff_ne]; omega
          have h8 : r.length ≤ 8 := (roundF_zero.1 hrf.out).1
          have hck : Hid (∀ d ∈ r, (checkF d).1 = 0) := (roundF_zero.1 hrf.out).2
          obtain ⟨k0, k1, k2, k3, k4, k5, k6, k7, k8, k9⟩ := hX3.ten
          have hcn := crew_new _ r s w3 (HR.later hB3) hf hrf.out (hL.later hB3)
          go_wp2_with fail
          refine hcn.mono ?_
          clear hcn k0 k1 k2 k3 k4 k5 k6 k7 k8 k9 hX3
          rintro e w4 ⟨c, E, B, D, NB, vW, vH, C, U, H, V, Vb, rfl, hcr0, hb4⟩
          have hcr := hcr0.crew
          have hB4 : Below w.heap.size w w4 := hB3.trans (hb4.mono hB3.size)
          have hok : Hid (CrewOk r (fun _ => wk0) (newF s r)) := newF_opens s r
          have hN : w.heap.size ≤ w3.heap.size := hB3.size
          generalize w3.heap.size = N at *
          obtain ⟨T, eT⟩ : ∃ T, T = newF s r := ⟨_, rfl⟩
          obtain ⟨X, eX⟩ : ∃ X : Nat → Wk, X = fun _ => wk0 := ⟨_, rfl⟩
          rw [← eT, ← eX] at hcr hok
          clear hcr0 hb4 eT eX HCC
          go_wp2_with fail
          go_loopg [8] l.length (fun g i wr => ∃ (j : Nat) (c : Nat → Nat) (X : Nat → Wk) (T : Nat → List Slot4), j ≤ l.length ∧ g = l.length - j ∧ i = .int .i64 j ∧ CrewAt wr c N E B vW C U r.length r X T ∧ Hid (CrewOk r X T) ∧ Below w.heap.size w wr)
          case atStart => exact ⟨0, c, X, T, by omega, by omega, rfl, hcr, hok, hB4⟩
          case round =>
            clear hcr hok hB4
            obtain ⟨j, c, X, T, hj, hg, rfl, hcr, hok, hBl⟩ := hrel
            by_cases hlt : j < l.length
            · obtain ⟨pb, poff, rfl, pc⟩ := hcell j hlt
              replace pc := cell_later hBl pc
              obtain ⟨k, hk, ek⟩ := index_lt l[j] r.length (by omega) h8
              go_upto_region 12 with fail
              rw [ek]
              clear ek pc
              have hki : (k : Int) < (r.length : Int) := by omega
              have q1 := hcr.ft
              have q2 := hcr.fw
              obtain ⟨gw, gcap, rfl, hptr⟩ := hcr.row (by omega)
              have q3 := hptr k hk
              have hres := result_any (C k) (U k) k (X k) wr (hcr.ws.wk k hk)
              obtain ⟨ov, eov⟩ : ∃ ov, ov = (X k).over := ⟨_, rfl⟩
              rw [← eov] at hres
              obtain ⟨y, ey⟩ : ∃ y, y = resC (X k) := ⟨_, rfl⟩
              obtain ⟨y0, ey0⟩ : ∃ y, y = resG (X k) 0 := ⟨_, rfl⟩
              obtain ⟨y1, ey1⟩ : ∃ y, y = resG (X k) 1 := ⟨_, rfl⟩
              obtain ⟨y2, ey2⟩ : ∃ y, y = resG (X k) 2 := ⟨_, rfl⟩
              obtain ⟨y3, ey3⟩ : ∃ y, y = resG (X k) 3 := ⟨_, rfl⟩
              rw [← ey, ← ey0, ← ey1, ← ey2, ← ey3] at hres
              have HY : Hid (y = resC (X k) ∧ y0 = resG (X k) 0 ∧ y1 = resG (X k) 1 ∧ y2 = resG (X k) 2 ∧ y3 = resG (X k) 3) := ⟨ey, ey0, ey1, ey2, ey3⟩
              have HOV : Hid (ov = (X k).over) := eov
              have hBM : B < wr.heap.size := hcr.tab.lt
              have hNz : N ≤ wr.heap.size := by
                rcases Nat.lt_or_ge B N with hlt | hge
                · have := hcr.low B hlt; have := hcr.cB; omega
                · omega
              have hCM : Hid (C k < wr.heap.size) := (hcr.ws.wk k hk).lt
              clear ey ey0 ey1 ey2 ey3 eov hptr
              go_wp2_with fail
              refine hres.mono ?_
              clear hres
              rintro e w5 ⟨rfl, hb5⟩
              have hz5 := hb5.size
              obtain ⟨W6, e6⟩ : ∃ W6, W6 = (w5.alloc (.cells #[.int .i64 y, .int .i64 y0, .int .i64 y1, .int .i64 y2, .int .i64 y3] 36)).alloc (.cells #[.slice none 0 0, .slice none 0 0, .slice none 0 0, .slice none 0 0, .slice none 0 0, .slice none 0 0, .slice none 0 0, .slice none 0 0, .slice none 0 0, .slice none 0 0] 57) := ⟨_, rfl⟩
              have hb6 : Below wr.heap.size wr W6 := by rw [e6]; exact (hb5.alloc hb5.size _).alloc (by simp; omega) _
              have hB6 : Below w.heap.size w W6 := hBl.trans (hb6.mono hBl.size)
              have p0 : W6.cell? ⟨w5.heap.size, 0, none⟩ = some (.int .i64 y) := by rw [e6]; go_simp
              have p1 : W6.cell? ⟨w5.heap.size, 1, none⟩ = some (.int .i64 y0) := by rw [e6]; go_simp
              have p2 : W6.cell? ⟨w5.heap.size, 2, none⟩ = some (.int .i64 y1) := by rw [e6]; go_simp
              have p3 : W6.cell? ⟨w5.heap.size, 3, none⟩ = some (.int .i64 y2) := by rw [e6]; go_simp
              have p4 : W6.cell? ⟨w5.heap.size, 4, none⟩ = some (.int .i64 y3) := by rw [e6]; go_simp
              have s0 : ∀ q, q < 10 → ∃ u, W6.cell? ⟨w5.heap.size + 1, q, none⟩ = some u := by
                rw [e6]
                exact fun q hq => ⟨.slice none 0 0, lt10 (P := fun q => World.cell? _ ⟨_, q, none⟩ = some (.slice none 0 0)) (by go_simp) (by go_simp) (by go_simp) (by go_simp) (by go_simp) (by go_simp) (by go_simp) (by go_simp) (by go_simp) (by go_simp) q hq⟩
              have f0 : ∀ o, W6.frozen? ⟨w5.heap.size + 1, o, none⟩ = false := fun o => by rw [e6]; go_simp
              obtain ⟨c7, e7⟩ : ∃ c7, c7 = recol c (w5.heap.size + 1) 7 := ⟨_, rfl⟩
              have h7 : Hid (c7 (w5.heap.size + 1) = 7) := by show _ = _; rw [e7]; unfold recol; rw [if_pos rfl]
              have hcr6 : CrewAt W6 c7 N E B (.slice (some ⟨gw, 0, none⟩) r.length gcap) C U r.length r X T := hcr.grew (by omega) hNz (Grew.of_below (S := fun _ => False) hb6) (fun _ _ e => e.elim) (fun b hb => by rw [e7]; unfold recol; rw [if_neg (by omega)])
              have hP6 : w5.heap.size + 1 < W6.heap.size := by rw [e6]; simp
              obtain ⟨M, eM⟩ : ∃ M, M = wr.heap.size := ⟨_, rfl⟩
              obtain ⟨P, eP⟩ : ∃ P, P = w5.heap.size := ⟨_, rfl⟩
              rw [← eM] at hBM hCM hz5 hNz
              rw [← eP] at hz5 p0 p1 p2 p3 p4 s0 f0 h7 hP6
              have hMw : w.heap.size ≤ M := by rw [eM]; exact hBl.size
              go_wp2_with fail
              rw [← e6]
              rw [← eP]
              clear e6 eP eM e7 hb5 hb6 hcr hBl q1 q2 q3
              go_loopg [13] 10 (fun g n wq => ∃ m : Nat, m ≤ 10 ∧ g = 10 - m ∧ n = .int .i64 m ∧ CrewAt wq c7 N E B (.slice (some ⟨gw, 0, none⟩) r.length gcap) C U r.length r X T ∧ Below (P + 1) W6 wq ∧ (∀ o, wq.frozen? ⟨P + 1, o, none⟩ = false) ∧ P + 1 < wq.heap.size ∧ Hid ((∀ q, q < 10 → ∃ u, wq.cell? ⟨P + 1, q, none⟩ = some u) ∧ ∀ q, q < m → ∃ u, wq.cell? ⟨P + 1, q, none⟩ = some u ∧ wq.ownsRow (P + 2) 83 4 u (T q).length (slotCells (T q))))
              case atStart => exact ⟨0, by omega, by omega, rfl, hcr6, Below.refl _ _, f0, hP6, ⟨s0, fun q hq => by omega⟩⟩
              case round =>
                clear hcr6 f0 s0
                obtain ⟨m, hm, hg2, rfl, hcr, hBq, f0, hPq, hS⟩ := hrel
                have hBw : Below w.heap.size w wr := hB6.trans (hBq.mono (by omega))
                by_cases hm10 : m < 10
                · have hmi : (m : Int) < 10 := by omega
                  have q1 := hcr.ft
                  have hsl := slots_any B m hm10 T wr hcr.tab
                  obtain ⟨uo, huo⟩ := hS.out.1 m hm10
                  have HR' : Hid (∀ w7 u, Below wr.heap.size wr w7 → w7.ownsRow wr.heap.size 83 4 u (T m).length (slotCells (T m)) → CrewAt (w7.setCell ⟨P + 1, m, none⟩ u) c7 N E B (.slice (some ⟨gw, 0, none⟩) r.length gcap) C U r.length r X T ∧ Below (P + 1) W6 (w7.setCell ⟨P + 1, m, none⟩ u) ∧ (∀ o, (w7.setCell ⟨P + 1, m, none⟩ u).frozen? ⟨P + 1, o, none⟩ = false) ∧ P + 1 < (w7.setCell ⟨P + 1, m, none⟩ u).heap.size ∧ Hid ((∀ q, q < 10 → ∃ u', (w7.setCell ⟨P + 1, m, none⟩ u).cell? ⟨P + 1, q, none⟩ = some u') ∧ ∀ q, q < m + 1 → ∃ u', (w7.setCell ⟨P + 1, m, none⟩ u).cell? ⟨P + 1, q, none⟩ = some u' ∧ (w7.setCell ⟨P + 1, m, none⟩ u).ownsRow (P + 2) 83 4 u' (T q).length (slotCells (T q)))) := fun w7 u hb7 ho => by
                    have hz7 := hb7.size
                    have hcr7 := hcr.later (by omega) hb7
                    have hsame : (w7.setCell ⟨P + 1, m, none⟩ u).cell? ⟨P + 1, m, none⟩ = some u := World.cell?_setCell_same _ _ _ (cell_later hb7 huo)
                    have hoth : ∀ q, q ≠ m → (w7.setCell ⟨P + 1, m, none⟩ u).cell? ⟨P + 1, q, none⟩ = w7.cell? ⟨P + 1, q, none⟩ := fun q hq => cell_apart _ hq
                    have hrow : ∀ u' n xs, w7.ownsRow (P + 2) 83 4 u' n xs → (w7.setCell ⟨P + 1, m, none⟩ u).ownsRow (P + 2) 83 4 u' n xs := fun u' n xs h => owns_kept h fun g hgg => Below.heap_setCell _ _ _ _ (fun e => by have := (owns_lt h hgg).1; dsimp only at e; omega)
                    refine ⟨hcr7.grew (by omega) (by omega) (grew_cell w7 (P + 1) m u) (fun b _ e => by rw [e]; exact h7.out) (fun _ _ => rfl), (hBq.trans (hb7.mono (by omega))).setCell (p := ⟨P + 1, m, none⟩) (Nat.le_refl _) _, fun o => by rw [World.frozen?_setCell, hb7.frozen (p := ⟨P + 1, o, none⟩) hPq]; exact f0 o, by rw [size_setCell']; omega, fun q hq => ?_, fun q hq => ?_⟩
                    · by_cases e : q = m
                      · subst e; exact ⟨u, hsame⟩
                      · rw [hoth q e]
                        obtain ⟨u', hu'⟩ := hS.out.1 q hq
                        exact ⟨u', cell_later hb7 hu'⟩
                    · by_cases e : q = m
                      · subst e; exact ⟨u, hsame, hrow _ _ _ (owns_mono ho (by omega))⟩
                      · rw [hoth q e]
                        obtain ⟨u', hu', ho'⟩ := hS.out.2 q (by omega)
                        exact ⟨u', cell_later hb7 hu', hrow _ _ _ (owns_below ho' hb7)⟩
                  clear hS hcr hBq
                  go_wp2_with fail
                  refine hsl.mono ?_
                  clear hsl
                  rintro e w7 ⟨⟨u, rfl, ho⟩, hb7⟩
                  have HX := HR'.out w7 u hb7 ho
                  have HX' : Hid _ := HX
                  have g1 := cell_later hb7 huo
                  have g2 : ∀ o, w7.frozen? ⟨P + 1, o, none⟩ = false := fun o => by rw [hb7.frozen (p := ⟨P + 1, o, none⟩) hPq]; exact f0 o
                  have g3 : P + 1 < w7.heap.size := Nat.lt_of_lt_of_le hPq hb7.size
                  clear HR' huo hb7 q1 HX
                  rcases ho.2 with ⟨rfl, -⟩ | ⟨gg, gc, cur, rfl, -⟩
                  · clear ho
                    go_wp2_with fail
                    go_roundg (10 - (m + 1))
                    case measure => omega
                    case rel => exact ⟨m + 1, by omega, rfl, by go_num, HX'.out⟩
                  · clear ho
                    go_wp2_with fail
                    go_roundg (10 - (m + 1))
                    case measure => omega
                    case rel => exact ⟨m + 1, by omega, rfl, by go_num, HX'.out⟩
                · obtain rfl : m = 10 := by omega
                  have hwas : WasAt wr P T y y0 y1 y2 y3 := by
                    have hpc : ∀ o, wr.cell? ⟨P, o, none⟩ = W6.cell? ⟨P, o, none⟩ := fun o => hBq.cell (p := ⟨P, o, none⟩) (by simp)
                    exact ⟨by rw [hpc]; exact p0, by rw [hpc]; exact p1, by rw [hpc]; exact p2, by rw [hpc]; exact p3, by rw [hpc]; exact p4, fun q hq => hS.out.2 q hq⟩
                  have q1 := hcr.ft
                  have q2 := hcr.fw
                  obtain ⟨gw', gcap', e', hptr⟩ := hcr.row (by omega)
                  cases e'
                  have q3 := hptr k hk
                  have hok2 : Hid (CrewOk r (putW X k (stepW T r[k] (k : Int) (X k)).x) (stepW T r[k] (k : Int) (X k)).T) := hok.out.step hk (hck.out _ (List.getElem_mem hk))
                  have HST : Hid (∀ w', Below wr.heap.size wr w' → Calls Tryd.prog 11 #[.pointer (some ⟨C k, 0, none⟩), .pointer (some ⟨B, 0, none⟩)] w' fun e w'' => e = .returned (.tuple #[.int .i64 (stepW T r[k] (k : Int) (X k)).what, .int .i64 (stepW T r[k] (k : Int) (X k)).who]) ∧ CrewAt w'' c7 N E B (.slice (some ⟨gw, 0, none⟩) r.length gcap) C U r.length r (putW X k (stepW T r[k] (k : Int) (X k)).x) (stepW T r[k] (k : Int) (X k)).T ∧ Below w.heap.size w w'' ∧ WasAt w'' P T y y0 y1 y2 y3) := fun w' hb => by
                    have hcr' := hcr.later (by omega) hb
                    refine (hcr'.step hk hk (hck.out _ (List.getElem_mem hk)) (hok.out.well k hk)).mono ?_
                    rintro e w'' ⟨he, hx, hT, hg⟩
                    have hBb : Below w.heap.size w w' := hBw.trans (hb.mono hBw.size)
                    exact ⟨he, hcr'.stepped (by omega) hk hx hT hg, hcr'.below hk hg hBb hN hBb.size, (hwas.later hb).grew hg (fun b e => by have := hCM.out; rcases e with e | e <;> omega)⟩
                  clear hS hBq hcr hptr hwas p0 p1 p2 p3 p4 hB6
                  cases ov with
                  | false =>
                    generalize (stepW T r[k] (k : Int) (X k)).x = x' at *
                    generalize (stepW T r[k] (k : Int) (X k)).T = T' at *
                    generalize (stepW T r[k] (k : Int) (X k)).what = wt at *
                    generalize (stepW T r[k] (k : Int) (X k)).who = wo at *
                    go_wp2_with fail
                    go_cut [14, 15] from 43 to 139 (fun c1 c2 wc => c1 = .int .i64 wt ∧ c2 = .int .i64 wo ∧ CrewAt wc c7 N E B (.slice (some ⟨gw, 0, none⟩) r.length gcap) C U r.length r (putW X k x') T' ∧ Below w.heap.size w wc)
                    case first =>
                      go_region_with (go_at_call 11; refine (HST.out _ (by first | exact (Below.refl _ _).drew | exact Below.refl _ _)).mono ?_; rintro e w8 ⟨rfl, hcr8, hB8, -⟩)
                      all_goals go_wp2_with fail
                      all_goals go_meet
                      all_goals exact ⟨rfl, rfl, hcr8, hB8⟩
                    case rest =>
                      obtain ⟨rfl, rfl, hcr8, hB8⟩ := hcut
                      clear HST q1 q2 q3 hBw
                      go_wp2_with fail
                      go_roundg (l.length - (j + 1))
                      case measure => omega
                      case rel => exact ⟨j + 1, c7, putW X k x', T', by omega, rfl, by go_num, hcr8, hok2, hB8⟩
                  | true =>
                    rw [stepW_over HOV.out.symm, putW_self] at HST hok2
                    dsimp only at HST hok2
                    have h36 := eq43 y y0 y1 y2 y3
                    go_wp2_with fail
                    go_cut [14, 15] from 43 to 139 (fun c1 c2 wc => c1 = .int .i64 3 ∧ c2 = .int .i64 (-1) ∧ CrewAt wc c7 N E B (.slice (some ⟨gw, 0, none⟩) r.length gcap) C U r.length r X T ∧ Below w.heap.size w wc ∧ WasAt wc P T y y0 y1 y2 y3)
                    case first =>
                      go_region_with (go_at_call 11; refine (HST.out _ (by first | exact (Below.refl _ _).drew | exact Below.refl _ _)).mono ?_; rintro e w8 ⟨rfl, hcr8, hB8, hwas8⟩)
                      all_goals go_wp2_with fail
                      all_goals go_meet
                      all_goals exact ⟨rfl, rfl, hcr8, hB8, hwas8⟩
                    case rest =>
                      obtain ⟨rfl, rfl, hcr8, hB8, hwas8⟩ := hcut
                      clear HST q1 q2 q3 hBw
                      have q2 := hcr8.fw
                      obtain ⟨gw', gcap', e', hptr⟩ := hcr8.row (by omega)
                      cases e'
                      have q3 := hptr k hk
                      have hres := result_any (C k) (U k) k (X k) wc (hcr8.ws.wk k hk)
                      rw [← HOV.out, ← HY.out.1, ← HY.out.2.1, ← HY.out.2.2.1, ← HY.out.2.2.2.1, ← HY.out.2.2.2.2] at hres
                      clear hptr
                      go_wp2_with fail
                      refine hres.mono ?_
                      clear hres
                      rintro e w9 ⟨rfl, hb9⟩
                      have hA9 : Below w9.heap.size w9 (w9.alloc (.cells #[.int .i64 y, .int .i64 y0, .int .i64 y1, .int .i64 y2, .int .i64 y3] 36)) := (Below.refl _ _).alloc (Nat.le_refl _) _
                      have hcr9 := (hcr8.later (by omega) hb9).later (by omega) hA9
                      have hwas9 := (hwas8.later hb9)
                      have hwasA := hwas9.later hA9
                      have hB9 : Below w.heap.size w w9 := hB8.trans (hb9.mono hB8.size)
                      have hBA : Below w.heap.size w (w9.alloc (.cells #[.int .i64 y, .int .i64 y0, .int .i64 y1, .int .i64 y2, .int .i64 y3] 36)) := hB9.alloc hB9.size _
                      have p0 := hwas9.p0
                      have p1 := hwas9.p1
                      have p2 := hwas9.p2
                      have p3 := hwas9.p3
                      have p4 := hwas9.p4
                      have hPz : P < w9.heap.size := World.block_lt_of_cell? w9 _ p0
                      clear hcr8 hwas8 hb9 hA9 hwas9 hB9 hB8 q2 q3
                      go_wp2_with fail
                      clear p0 p1 p2 p3 p4 hPz
                      go_loopg [18] 10 (fun g n wq => ∃ m : Nat, m ≤ 10 ∧ g = 10 - m ∧ n = .int .i64 m ∧ CrewAt wq c7 N E B (.slice (some ⟨gw, 0, none⟩) r.length gcap) C U r.length r X T ∧ WasAt wq P T y y0 y1 y2 y3 ∧ Below w.heap.size w wq)
                      case atStart => exact ⟨0, by omega, by omega, rfl, hcr9, hwasA, hBA⟩
                      case round =>
                        clear hcr9 hwasA hBA
                        obtain ⟨m, hm, hg3, rfl, hcr, hwas, hBq⟩ := hrel
                        by_cases hm10 : m < 10
                        · have hmi : (m : Int) < 10 := by omega
                          have q1 := hcr.ft
                          obtain ⟨u, hu, ho⟩ := hwas.sl m hm10
                          have hl9 := (hcr.tab.row m hm10).len
                          have HSL : Hid (∀ w', Below wr.heap.size wr w' → Calls Tryd.prog 16 #[.pointer (some ⟨B, 0, none⟩), .int .i64 (m : Int)] w' fun e w'' => ∃ u', e = .returned u' ∧ SlotsAt w'' u' (T m) ∧ Below wr.heap.size wr w'') := fun w' hb => by
                            refine (slots_any B m hm10 T w' (hcr.tab.later hb)).mono ?_
                            rintro e w'' ⟨⟨u', he, ho'⟩, hb'⟩
                            exact ⟨u', he, slotsAt_of_owns ho', hb.trans (hb'.mono hb.size)⟩
                          have HSM : Hid (∀ w' u', Below wr.heap.size wr w' → SlotsAt w' u' (T m) → Calls Tryd.prog 17 #[u, u'] w' fun e w'' => e = .returned (.bool true) ∧ Below wr.heap.size wr w'') := fun w' u' hb hs => by
                            refine (same_any u u' (T m) w' ((slotsAt_of_owns ho).later hb) hs hl9).mono ?_
                            rintro e w'' ⟨he, hb'⟩
                            exact ⟨he, hb.trans (hb'.mono hb.size)⟩
                          rcases ho.2 with ⟨rfl, -⟩ | ⟨gg, gc, cur, rfl, -⟩
                          · clear ho
                            go_wp2_with fail
                            go_region_with (first | (go_at_call 16; refine (HSL.out _ (by first | exact (Below.refl _ _).drew | exact Below.refl _ _)).mono ?_; rintro e w10 ⟨u', rfl, hs10, hb10⟩; have hu10 := cell_later hb10 hu) | (go_at_call 17; refine (HSM.out _ _ hb10 hs10).mono ?_; rintro e w11 ⟨rfl, hb11⟩))
                            all_goals go_wp2_with fail
                            all_goals go_roundg (10 - (m + 1))
                            all_goals first | omega | exact ⟨m + 1, by omega, rfl, by go_num, hcr.later (by omega) hb11, hwas.later hb11, hBq.trans (hb11.mono hBq.size)⟩
                          · clear ho
                            go_wp2_with fail
                            go_region_with (first | (go_at_call 16; refine (HSL.out _ (by first | exact (Below.refl _ _).drew | exact Below.refl _ _)).mono ?_; rintro e w10 ⟨u', rfl, hs10, hb10⟩; have hu10 := cell_later hb10 hu) | (go_at_call 17; refine (HSM.out _ _ hb10 hs10).mono ?_; rintro e w11 ⟨rfl, hb11⟩))
                            all_goals go_wp2_with fail
                            all_goals go_roundg (10 - (m + 1))
                            all_goals first | omega | exact ⟨m + 1, by omega, rfl, by go_num, hcr.later (by omega) hb11, hwas.later hb11, hBq.trans (hb11.mono hBq.size)⟩
                        · clear hwas
                          go_wp2_with fail
                          go_roundg (l.length - (j + 1))
                          case measure => omega
                          case rel => exact ⟨j + 1, c7, X, T, by omega, rfl, by go_num, hcr, hok2, hBq⟩
            · clear hcell
              go_wp2_with fail
              go_ret
              exact ⟨rfl, hBl⟩
      · have t0 : (cc != 0) = true := by simp [h0]
        clear h0 HCC
        go_wp2_with fail
        go_ret
        exact ⟨rfl, hB3⟩
  · go_wp2_with fail
    go_ret
    exact ⟨rfl, hB1⟩
end Go.Proofs.YtjkffknipbddoabDoor
