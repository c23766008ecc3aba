/-
  The walk of a law's greatSteps.
-/
import Derived.Test.YtihfjmdjjeciiacDoorOpnQJ
namespace Go.Proofs.YtihfjmdjjeciiacDoor
open Go.RowKit

set_option maxRecDepth 100000 in
set_option maxHeartbeats 1000000 in
theorem greatQ_any {v : Value} {l : List QStep} {w : World} (h : StepsQ w v l) (hf : FitsQ l) :
    Calls Tryd.prog 34 #[v] w fun e w' => IsBool e ∧ Below w.heap.size w w' := by
  have hm := hf.1
  obtain ⟨a, cap, rfl, h⟩ := h
  go_enter Tryd.func34, Tryd.ntmps34
  go_wp2_with fail
  go_loopg [3, 4] l.length (fun g n i wr => ∃ j : Nat, ∃ x : Int, j ≤ l.length ∧ j ≤ 200 ∧ g = l.length - j ∧ i = .int .i64 (j : Int) ∧ n = .int .i64 x ∧ Below w.heap.size w wr)
  case atStart => exact ⟨0, 0, by omega, by omega, by omega, rfl, rfl, Below.refl _ _⟩
  case round =>
    obtain ⟨j, x, hj, h200, hg, rfl, rfl, hB⟩ := hrel
    by_cases hlt : j < l.length
    · by_cases hlt' : j < 200
      · obtain ⟨b, off, rfl, -, ⟨rv, q1, hR⟩, ⟨pv, q2, hP⟩, -⟩ := h j hlt
        have hfit := (hf.2 j hlt).1
        have hpm := (hf.2 j hlt).2.2
        replace q1 := cell_later hB q1
        replace q2 := cell_later hB q2
        replace hR := hR.later hB
        obtain ⟨pa, pcap, rfl, -⟩ := hP
        have hgr := great_any rv l[j].r _ hR hfit
        clear h
        generalize l[j].r = r at *
        generalize l[j].p.length = pn at *
        obtain ⟨ra, rcap, rfl, -⟩ := id hR
        have hr1 := hfit.1
        go_wp2_with fail
        refine hgr.mono ?_
        rintro e w1 ⟨⟨gb, rfl⟩, rfl⟩
        clear hgr
        cases gb with
        | true =>
          go_wp2_with fail
          go_ret
          exact ⟨⟨_, rfl⟩, hB⟩
        | false =>
          obtain ⟨a2, cap2, e2, hR2⟩ := hR
          cases e2
          by_cases h500 : (500 : Int) < (pn : Int)
          · go_wp2_with fail
            go_ret
            exact ⟨⟨_, rfl⟩, hB⟩
          · go_wp2_with fail
            go_loopg [3, 5] r.length (fun g n i wq => ∃ m : Nat, ∃ y : Int, m ≤ r.length ∧ g = r.length - m ∧ i = .int .i64 (m : Int) ∧ n = .int .i64 y ∧ Below w.heap.size w wq ∧ wq.cell? ⟨b, off + j * 4 + 1, none⟩ = some (.slice ra r.length rcap) ∧ ∀ m' (hm' : m' < r.length), ∃ rb roff, ra = some ⟨rb, roff, none⟩ ∧ ∃ da dcap, wq.cell? ⟨rb, roff + m', none⟩ = some (.slice da r[m'].length dcap))
            case atStart => exact ⟨0, _, by omega, by omega, rfl, rfl, hB, q1, fun m' hm' => by
              obtain ⟨rb, roff, e, dv, d0, da, dcap, rfl, -⟩ := hR2 m' hm'
              exact ⟨rb, roff, e, da, dcap, d0⟩⟩
            case round =>
              obtain ⟨m, y, hm', hgm, rfl, rfl, hBm, q2m, hRm⟩ := hrel
              clear hB q1 q2 hR2
              by_cases hmr : m < r.length
              · obtain ⟨rb, roff, rfl, da, dcap, d0⟩ := hRm m hmr
                have hl2 := hfit.2 m hmr
                have HRm : Hid (∀ m' (hm' : m' < r.length), ∃ rb' roff', some ⟨rb, roff, none⟩ = some (⟨rb', roff', none⟩ : Addr) ∧ ∃ da dcap, wr.cell? ⟨rb', roff' + m', none⟩ = some (.slice da r[m'].length dcap)) := hRm
                clear hRm
                go_wp2_with fail
                go_roundg (r.length - (m + 1))
                case measure => omega
                case rel => exact ⟨m + 1, _, by omega, rfl, by go_num, rfl, hBm, q2m, HRm.out⟩
              · obtain rfl : m = r.length := by omega
                clear hRm
                go_wp2_with fail
                go_roundg (l.length - (j + 1))
                case measure => omega
                case rel => exact ⟨j + 1, _, by omega, by omega, rfl, by go_num, rfl, hBm⟩
      · clear h
        go_wp2_with fail
        all_goals go_ret
        all_goals exact ⟨⟨_, rfl⟩, hB⟩
    · clear h
      go_wp2_with fail
      all_goals go_ret
      all_goals exact ⟨⟨_, rfl⟩, hB⟩
end Go.Proofs.YtihfjmdjjeciiacDoor
