/-
  The walk of the law WorkerWaits.
-/
import Derived.Test.YtjkffknipbddoabDoorLawP
namespace Go.Proofs.YtjkffknipbddoabDoor
open Go.RowKit Go.Shelf

/-- Is one of the first n not over? -/
def aheadB (X : Nat → Wk) (n : Nat) : Bool := (List.range n).any fun q => !(X q).over
theorem aheadB_succ (X : Nat → Wk) (n : Nat) : aheadB X (n + 1) = (aheadB X n || !(X n).over) := by
  unfold aheadB; rw [List.range_succ, List.any_append]; simp
theorem aheadB_true {X : Nat → Wk} {n q : Nat} (hq : q < n) (h : (X q).over = false) : aheadB X n = true := by
  unfold aheadB
  rw [List.any_eq_true]
  exact ⟨q, by simpa using hq, by simp [h]⟩

set_option maxRecDepth 100000 in
set_option maxHeartbeats 4000000 in
theorem waits_any (v : Value) (r : List (List Op5)) (s : Nat → Int) (a : Option Addr) (cap : Nat) (l : List Int) (w : World) (hr : RoundAt w v r) (hf : Fits r) (hl : NumsAt w (.slice a l.length cap) l) (hmax : l.length ≤ 9223372036854775807) (hL : Lim w) :
    Calls Tryd.prog 3 #[stV s, v, .slice a l.length cap] w fun e w' => e = .returned (.bool true) ∧ Below w.heap.size w w' := by
  show Calls Tryd.prog 3 #[.agg #[.int .i64 (s 0), .int .i64 (s 1), .int .i64 (s 2), .int .i64 (s 3), .int .i64 (s 4), .int .i64 (s 5), .int .i64 (s 6), .int .i64 (s 7), .int .i64 (s 8), .int .i64 (s 9)], _, _] w _
  have hB0 : Below w.heap.size w (w.alloc (.cells #[.int .i64 (s 0), .int .i64 (s 1), .int .i64 (s 2), .int .i64 (s 3), .int .i64 (s 4), .int .i64 (s 5), .int .i64 (s 6), .int .i64 (s 7), .int .i64 (s 8), .int .i64 (s 9)] 23)) := (Below.refl _ _).alloc (Nat.le_refl _) _
  have hX0 := box_new w s
  obtain ⟨a', cap', e1, hcell⟩ := hl
  cases e1
  have HR := hr
  obtain ⟨ra, rcap, rfl, -⟩ := hr
  have hrm := hf.1
  go_enter Tryd.func3, Tryd.ntmps3
  go_wp2_with fail
  refine (begunW_any _ (hL.later hB0)).mono ?_
  rintro e w1 ⟨rfl, hb1⟩
  have hB1 : Below w.heap.size w w1 := hB0.trans (hb1.mono (by simp))
  have hX1 := hX0.later hb1
  clear hB0 hb1 hX0
  go_wp2_with fail
  refine (great_any _ r _ (HR.later hB1) hf).mono ?_
  rintro e w2 ⟨⟨g, rfl⟩, rfl⟩
  cases g
  · by_cases hp : 500 < l.length
    · have hpi : (500 : Int) < (l.length : Int) := by omega
      go_wp2_with fail
      go_ret
      exact ⟨rfl, hB1⟩
    · have hpi : ¬ (500 : Int) < (l.length : Int) := by omega
      go_wp2_with fail
      refine (faults_any _ r _ (HR.later hB1) hf).mono ?_
      rintro e w3 ⟨⟨cc, rfl, hcc⟩, hb3⟩
      have hB3 : Below w.heap.size w w3 := hB1.trans (hb3.mono hB1.size)
      have hX3 := hX1.later hb3
      have HCC : Hid (cc = 0 → roundF r = 0) := hcc
      clear hcc hb3 hX1 hB1
      by_cases h0 : cc = 0
      · have hrf : Hid (roundF r = 0) := HCC.out h0
        subst h0
        by_cases hlen : r.length = 0
        · have hle : ((r.length : Int) == 0) = true := by simp [hlen]
          clear hlen
          go_wp2_with fail
          go_ret
          exact ⟨rfl, hB3⟩
        · have hle : ((r.length : Int) == 0) = false := by rw [beq_eq_false_iff_ne]; omega
          have h8 : r.length ≤ 8 := (roundF_zero.1 hrf.out).1
          have hck : Hid (∀ d ∈ r, (checkF d).1 = 0) := (roundF_zero.1 hrf.out).2
          obtain ⟨k0, k1, k2, k3, k4, k5, k6, k7, k8, k9⟩ := hX3.ten
          have hcn := crew_new _ r s w3 (HR.later hB3) hf hrf.out (hL.later hB3)
          go_wp2_with fail
          refine hcn.mono ?_
          clear hcn k0 k1 k2 k3 k4 k5 k6 k7 k8 k9 hX3
          rintro e w4 ⟨c, E, B, D, NB, vW, vH, C, U, H, V, Vb, rfl, hcr0, hb4⟩
          have hcr := hcr0.crew
          have hB4 : Below w.heap.size w w4 := hB3.trans (hb4.mono hB3.size)
          have hok : Hid (CrewOk r (fun _ => wk0) (newF s r)) := newF_opens s r
          have hN : w.heap.size ≤ w3.heap.size := hB3.size
          generalize w3.heap.size = N at *
          obtain ⟨T, eT⟩ : ∃ T, T = newF s r := ⟨_, rfl⟩
          obtain ⟨X, eX⟩ : ∃ X : Nat → Wk, X = fun _ => wk0 := ⟨_, rfl⟩
          rw [← eT, ← eX] at hcr hok
          clear hcr0 hb4 eT eX HCC
          go_wp2_with fail
          go_loopg [8] l.length (fun g i wr => ∃ (j : Nat) (X : Nat → Wk) (T : Nat → List Slot4), j ≤ l.length ∧ g = l.length - j ∧ i = .int .i64 j ∧ CrewAt wr c N E B vW C U r.length r X T ∧ Hid (CrewOk r X T) ∧ Below w.heap.size w wr)
          case atStart => exact ⟨0, X, T, by omega, by omega, rfl, hcr, hok, hB4⟩
          case round =>
            clear hcr hok hB4
            obtain ⟨j, X, T, hj, hg, rfl, hcr, hok, hBl⟩ := hrel
            by_cases hlt : j < l.length
            · obtain ⟨pb, poff, rfl, pc⟩ := hcell j hlt
              replace pc := cell_later hBl pc
              obtain ⟨k, hk, ek⟩ := index_lt l[j] r.length (by omega) h8
              go_wp2_with fail
              rw [ek]
              clear ek pc
              have hki : (k : Int) < (r.length : Int) := by omega
              go_loopg [10, 11] k (fun g ah n wq => ∃ m : Nat, m ≤ k ∧ g = k - m ∧ n = .int .i64 m ∧ ah = .bool (aheadB X m) ∧ CrewAt wq c N E B vW C U r.length r X T ∧ Below w.heap.size w wq)
              case atStart => exact ⟨0, by omega, by omega, rfl, rfl, hcr, hBl⟩
              case round =>
                clear hcr hBl
                obtain ⟨m, hm, hg2, rfl, rfl, hcr, hBl⟩ := hrel
                obtain ⟨gw, gcap, rfl, hptr⟩ := hcr.row (by omega)
                have q2 := hcr.fw
                by_cases hmk : m < k
                · have q3 := hptr m (by omega)
                  have hmi : (m : Int) < (k : Int) := by omega
                  have hmr : (m : Int) < (r.length : Int) := by omega
                  have hres := result_any (C m) (U m) m (X m) wr (hcr.ws.wk m (by omega))
                  have has := aheadB_succ X m
                  have HAS : Hid (aheadB X (m + 1) = (aheadB X m || !(X m).over)) := has
                  clear has hptr
                  generalize resC (X m) = y at hres
                  generalize resG (X m) 0 = y0 at hres
                  generalize resG (X m) 1 = y1 at hres
                  generalize resG (X m) 2 = y2 at hres
                  generalize resG (X m) 3 = y3 at hres
                  cases hov : (X m).over with
                  | true =>
                    rw [hov] at hres HAS
                    clear hov
                    cases hah : aheadB X m with
                    | true =>
                      rw [hah] at HAS
                      go_wp2_with fail
                      refine hres.mono ?_
                      clear hres
                      rintro e w5 ⟨rfl, hb5⟩
                      have hcr5 := hcr.later (by omega) hb5
                      have hB5 : Below w.heap.size w w5 := hBl.trans (hb5.mono hBl.size)
                      clear hb5 hcr hBl q2 q3
                      go_wp2_with fail
                      go_roundg (k - (m + 1))
                      case measure => omega
                      case rel => exact ⟨m + 1, by omega, rfl, by go_num, by rw [HAS.out]; rfl, hcr5.later (by omega) ((Below.refl _ _).alloc (Nat.le_refl _) _), hB5.alloc hB5.size _⟩
                    | false =>
                      rw [hah] at HAS
                      go_wp2_with fail
                      refine hres.mono ?_
                      clear hres
                      rintro e w5 ⟨rfl, hb5⟩
                      have hcr5 := hcr.later (by omega) hb5
                      have hB5 : Below w.heap.size w w5 := hBl.trans (hb5.mono hBl.size)
                      clear hb5 hcr hBl q2 q3
                      go_wp2_with fail
                      go_roundg (k - (m + 1))
                      case measure => omega
                      case rel => exact ⟨m + 1, by omega, rfl, by go_num, by rw [HAS.out]; rfl, hcr5.later (by omega) ((Below.refl _ _).alloc (Nat.le_refl _) _), hB5.alloc hB5.size _⟩
                  | false =>
                    rw [hov] at hres HAS
                    clear hov
                    cases hah : aheadB X m with
                    | true =>
                      rw [hah] at HAS
                      go_wp2_with fail
                      refine hres.mono ?_
                      clear hres
                      rintro e w5 ⟨rfl, hb5⟩
                      have hcr5 := hcr.later (by omega) hb5
                      have hB5 : Below w.heap.size w w5 := hBl.trans (hb5.mono hBl.size)
                      clear hb5 hcr hBl q2 q3
                      go_wp2_with fail
                      go_roundg (k - (m + 1))
                      case measure => omega
                      case rel => exact ⟨m + 1, by omega, rfl, by go_num, by rw [HAS.out]; rfl, hcr5.later (by omega) ((Below.refl _ _).alloc (Nat.le_refl _) _), hB5.alloc hB5.size _⟩
                    | false =>
                      rw [hah] at HAS
                      go_wp2_with fail
                      refine hres.mono ?_
                      clear hres
                      rintro e w5 ⟨rfl, hb5⟩
                      have hcr5 := hcr.later (by omega) hb5
                      have hB5 : Below w.heap.size w w5 := hBl.trans (hb5.mono hBl.size)
                      clear hb5 hcr hBl q2 q3
                      go_wp2_with fail
                      go_roundg (k - (m + 1))
                      case measure => omega
                      case rel => exact ⟨m + 1, by omega, rfl, by go_num, by rw [HAS.out]; rfl, hcr5.later (by omega) ((Below.refl _ _).alloc (Nat.le_refl _) _), hB5.alloc hB5.size _⟩
                · obtain rfl : m = k := by omega
                  have q1 := hcr.ft
                  have q3 := hptr m hk
                  have hw : Hid (((stepW T r[m] (m : Int) (X m)).what ≠ 2 ∧ (stepW T r[m] (m : Int) (X m)).who = -1) ∨ ((stepW T r[m] (m : Int) (X m)).what = 2 ∧ ∃ q : Nat, q < m ∧ (stepW T r[m] (m : Int) (X m)).who = (q : Int) ∧ (X q).over = false ∧ (putW X m (stepW T r[m] (m : Int) (X m)).x q).over = false)) := hok.out.waits hk
                  have hok2 : Hid (CrewOk r (putW X m (stepW T r[m] (m : Int) (X m)).x) (stepW T r[m] (m : Int) (X m)).T) := hok.out.step hk (hck.out _ (List.getElem_mem hk))
                  have HST : Hid (∀ w', Below wr.heap.size wr w' → Calls Tryd.prog 11 #[.pointer (some ⟨C m, 0, none⟩), .pointer (some ⟨B, 0, none⟩)] w' fun e w'' => e = .returned (.tuple #[.int .i64 (stepW T r[m] (m : Int) (X m)).what, .int .i64 (stepW T r[m] (m : Int) (X m)).who]) ∧ CrewAt w'' c N E B (.slice (some ⟨gw, 0, none⟩) r.length gcap) C U r.length r (putW X m (stepW T r[m] (m : Int) (X m)).x) (stepW T r[m] (m : Int) (X m)).T ∧ Below w.heap.size w w'') := fun w' hb => by
                    have hcr' := hcr.later (by omega) hb
                    refine (hcr'.step hk hk (hck.out _ (List.getElem_mem hk)) (hok.out.well m hk)).mono ?_
                    rintro e w'' ⟨he, hx, hT, hg⟩
                    have hBb : Below w.heap.size w w' := hBl.trans (hb.mono hBl.size)
                    exact ⟨he, hcr'.stepped (by omega) hk hx hT hg, hcr'.below hk hg hBb hN hBb.size⟩
                  generalize (stepW T r[m] (m : Int) (X m)).x = x' at *
                  generalize (stepW T r[m] (m : Int) (X m)).T = T' at *
                  generalize (stepW T r[m] (m : Int) (X m)).what = wt at *
                  generalize (stepW T r[m] (m : Int) (X m)).who = wo at *
                  clear hok hptr
                  go_wp2_with fail
                  go_cut [14, 15] from 42 to 120 (fun c1 c2 wc => c1 = .int .i64 wt ∧ c2 = .int .i64 wo ∧ CrewAt wc c N E B (.slice (some ⟨gw, 0, none⟩) r.length gcap) C U r.length r (putW X m x') T' ∧ Below w.heap.size w wc)
                  case first =>
                    go_region_with (go_at_call 11; refine (HST.out _ (by first | exact (Below.refl _ _).drew | exact Below.refl _ _)).mono ?_; rintro e w5 ⟨rfl, hcr5, hB5⟩)
                    all_goals go_wp2_with fail
                    all_goals go_meet
                    all_goals exact ⟨rfl, rfl, hcr5, hB5⟩
                  case rest =>
                    obtain ⟨rfl, rfl, hcr5, hB5⟩ := hcut
                    clear HST hcr hBl q1 q2 q3
                    rcases hw.out with ⟨hn2, rfl⟩ | ⟨rfl, q, hq, rfl, ho1, ho2⟩
                    · have t2 : (wt == 2) = false := by simp [hn2]
                      clear hn2 hw
                      go_wp2_with fail
                      go_roundg (l.length - (j + 1))
                      case measure => omega
                      case rel => exact ⟨j + 1, putW X m x', T', by omega, rfl, by go_num, hcr5, hok2, hB5⟩
                    · have hah : aheadB X m = true := aheadB_true hq ho1
                      have hqi : (q : Int) < (m : Int) := by omega
                      have hqn : ¬ (m : Int) ≤ (q : Int) := by omega
                      have hqr : (q : Int) < (r.length : Int) := by omega
                      have q2 := hcr5.fw
                      obtain ⟨gw', gcap', e', hptr⟩ := hcr5.row (by omega)
                      cases e'
                      have q3 := hptr q (by omega)
                      have hres := result_not (C q) (U q) q _ wc (hcr5.ws.wk q (by omega)) ho2
                      clear hptr hw ho1 ho2
                      simp only [resV] at hres
                      go_wp2_with fail
                      refine hres.mono ?_
                      clear hres
                      rintro e w6 ⟨rfl, hb6⟩
                      have hcr6 := hcr5.later (by omega) hb6
                      have hB6 : Below w.heap.size w w6 := hB5.trans (hb6.mono hB5.size)
                      clear hb6 hcr5 hB5 q2 q3 hah
                      go_wp2_with fail
                      go_roundg (l.length - (j + 1))
                      case measure => omega
                      case rel => exact ⟨j + 1, putW X m x', T', by omega, rfl, by go_num, hcr6.later (by omega) ((Below.refl _ _).alloc (Nat.le_refl _) _), hok2, hB6.alloc hB6.size _⟩
            · clear hcell
              go_wp2_with fail
              go_ret
              exact ⟨rfl, hBl⟩
      · have t0 : (cc != 0) = true := by simp [h0]
        clear h0 HCC
        go_wp2_with fail
        go_ret
        exact ⟨rfl, hB3⟩
  · go_wp2_with fail
    go_ret
    exact ⟨rfl, hB1⟩
end Go.Proofs.YtjkffknipbddoabDoor
