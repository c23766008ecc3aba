/-
  Hand.Step.
-/
import Derived.Test.YthlhbmldfjkagaaDoorHdF
namespace Go.Proofs.YthlhbmldfjkagaaDoor
open Go.RowKit Go.Shelf

theorem hand_any {w : World} {N NB G D : Nat} {dv : Value} {b : Nat} {d : List Op5} {V : Nat → Value} {x : Wk} {vs : Value} {st : List Op5} {T : Nat → List Slot4} (h : HB w N NB G D dv b d V x vs st T) (hck : (checkF d).1 = 0) (hw : WellW d x) (hN : N ≤ w.heap.size) :
    Calls Tryd.prog 51 #[.pointer (some ⟨G, 0, none⟩), .pointer (some ⟨D, 0, none⟩)] w (HStep w N NB G D dv b d V vs (stepW T d (b : Int) x)) := by
  have hd14 := check_len hck
  cases ho : x.over with
  | true => exact hs_over h ho
  | false =>
    by_cases hn : x.nx < d.length
    · rcases alone_parts (checkF_alone hck _ (List.getElem_mem hn)) with ⟨k, -⟩ | ⟨k, -⟩ | ⟨k, -⟩ | ⟨k, -⟩ | ⟨k, -⟩ | ⟨k, -⟩
      · exact hs_num h ho hn k hck
      · cases hi : x.is d[x.nx].b.toNat with
        | true => exact hs_own h ho hn k hi hck
        | false =>
          by_cases hb : 0 ≤ (beforeT T d[x.nx].b (b : Int)).2
          · exact hs_wait h ho hn k hi hb hck
          · exact hs_load h ho hn k hi hb hck
      · rcases k with k | k | k | k
        · exact hs_ar3 h ho hn k hck
        · exact hs_ar4 h ho hn k hck
        · exact hs_ar5 h ho hn k hck
        · exact hs_ar6 h ho hn k hck
      · exact hs_store h ho hn k hN hck
      · by_cases hz : x.regs d[x.nx].a.toNat = 0
        · exact hs_stop0 h ho hn k hz hck
        · exact hs_stop1 h ho hn k hz (fun q => hw.stop hck hn k q) hck
      · by_cases hz : x.regs d[x.nx].a.toNat = 0
        · exact hs_skip0 h ho hn k hz hck
        · exact hs_skip1 h ho hn k hz hck
    · exact hs_end h ho hn hd14 (by have := hw.nx; omega)
end Go.Proofs.YthlhbmldfjkagaaDoor
