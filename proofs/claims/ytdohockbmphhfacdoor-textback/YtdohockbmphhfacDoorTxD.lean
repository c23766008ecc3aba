/-
  What the package variables hold, and the walk of words.Number.
-/
import Derived.Test.YtdohockbmphhfacDoorTxC
import Derived.Lib.AppendIntMem
import Derived.Lib.ParseIntBTie
namespace Go.Proofs.YtdohockbmphhfacDoor
open Go.RowKit

/-- What the package variables hold. -/
structure Env (w : World) : Prop where
  lim : Lim w
  form : ∀ k, k < 10 → w.cell? ⟨2, k * 2, none⟩ = some (.string (strB (wordK k))) ∧ w.cell? ⟨2, k * 2 + 1, none⟩ = some (.int .i64 ((manyK k : Nat) : Int))
  tab : Lib.TabIs Tryd.prog w "internal/strconv.uint64pow10" .u64 Lib.pow10Tab
  syn : ∃ ev, w.cell? ⟨6, 0, none⟩ = some ev ∧ (ev = .nilIface ∨ ∃ te pe, ev = .iface te pe)
  rng : ∃ ev, w.cell? ⟨7, 0, none⟩ = some ev ∧ (ev = .nilIface ∨ ∃ te pe, ev = .iface te pe)

theorem Env.later {w w' : World} (hb : Below w.heap.size w w') (h : Env w) : Env w' where
  lim := h.lim.later hb
  form := fun k hk => ⟨cell_later hb (h.form k hk).1, cell_later hb (h.form k hk).2⟩
  tab := Lib.tabBelow_of_tabIs h.tab _ hb
  syn := by obtain ⟨ev, h1, h2⟩ := h.syn; exact ⟨ev, cell_later hb h1, h2⟩
  rng := by obtain ⟨ev, h1, h2⟩ := h.rng; exact ⟨ev, cell_later hb h1, h2⟩

theorem parseB_bounds {l : List UInt8} {v : Int} (h : Lib.parseIntB 64 l = .ok v) : -9223372036854775808 ≤ v ∧ v ≤ 9223372036854775807 := by
  have := Lib.parseIntB_bounds h
  omega

theorem fmt_any {n : Int} (h : I64 n) (w : World) (hE : Env w) :
    Calls Tryd.prog 97 #[.int .i64 n, .int .i64 10] w fun e w' => e = .returned (.string (strB (Lib.itoa n))) ∧ Below w.heap.size w w' := by
  refine (Tryd.strconv_FormatInt_10 n h.1 h.2 w hE.tab).mono ?_
  rintro e w' ⟨rfl, k, os, rfl⟩
  exact ⟨rfl, Lib.below_grow _ _ (Nat.le_refl _) _ _⟩

theorem strB_toList (l : List UInt8) : (strB l).toList = l := by
  rw [ByteArray.toList_eq]; rfl

theorem str_beq (a b : List UInt8) : ((strB a).toList == (strB b).toList) = decide (a = b) := by
  rw [strB_toList, strB_toList, Bool.eq_iff_iff]; simp

set_option maxRecDepth 100000 in
set_option maxHeartbeats 400000 in
theorem num_any (l : List UInt8) (w : World) (hE : Env w) (hl : l.length ≤ 281474976710656) :
    Calls Tryd.prog 106 #[.string (strB l)] w fun e w' => e = .returned (.tuple #[.int .i64 ((numF l).getD 0), .bool (numF l).isSome]) ∧ Below w.heap.size w w' := by
  obtain ⟨es, hs1, hs2⟩ := hE.syn
  obtain ⟨er, hr1, hr2⟩ := hE.rng
  cases hp : Lib.parseIntB 64 l with
  | ok v =>
    obtain ⟨b0, b1⟩ := parseB_bounds hp
    have hc := Tryd.strconv_ParseInt_10_at64_ok (strB l) (by rw [strB_size]; omega) v hp w
    by_cases he : Lib.itoa v = l
    · have hn : numF l = some v := by simp [numF, hp, he]
      rw [hn]
      have hq := str_beq (Lib.itoa v) l
      rw [decide_eq_true he] at hq
      go_enter Tryd.func106, Tryd.ntmps106
      go_wp2_with fail
      refine hc.mono ?_
      rintro e w1 ⟨rfl, hw1⟩
      have hb1 : Below w.heap.size w w1 := by
        rcases hw1 with rfl | ⟨t, rfl⟩
        · exact Below.refl _ _
        · exact Lib.bytesWorld_below _ _ _
      clear hw1
      go_wp2_with fail
      refine (fmt_any ⟨b0, b1⟩ w1 (hE.later hb1)).mono ?_
      rintro e w2 ⟨rfl, hb2⟩
      go_wp2_with fail
      go_ret2
      exact ⟨rfl, hb1.trans (hb2.mono hb1.size)⟩
    · have hn : numF l = none := by simp [numF, hp, he]
      rw [hn]
      have hq := str_beq (Lib.itoa v) l
      rw [decide_eq_false he] at hq
      go_enter Tryd.func106, Tryd.ntmps106
      go_wp2_with fail
      refine hc.mono ?_
      rintro e w1 ⟨rfl, hw1⟩
      have hb1 : Below w.heap.size w w1 := by
        rcases hw1 with rfl | ⟨t, rfl⟩
        · exact Below.refl _ _
        · exact Lib.bytesWorld_below _ _ _
      clear hw1
      go_wp2_with fail
      refine (fmt_any ⟨b0, b1⟩ w1 (hE.later hb1)).mono ?_
      rintro e w2 ⟨rfl, hb2⟩
      go_wp2_with fail
      go_ret2
      exact ⟨rfl, hb1.trans (hb2.mono hb1.size)⟩
  | «syntax» =>
    have hn : numF l = none := by simp [numF, hp]
    rw [hn]
    have hc := Tryd.strconv_ParseInt_10_at64_syntax (strB l) (by rw [strB_size]; exact hl) hp es w hs1 hs2
    go_enter Tryd.func106, Tryd.ntmps106
    go_wp2_with fail
    refine hc.mono ?_
    rintro e w1 ⟨N, rfl, -, -, hb1⟩
    go_wp2_with fail
    go_ret2
    exact ⟨rfl, hb1⟩
  | range =>
    have hn : numF l = none := by simp [numF, hp]
    rw [hn]
    have hc := Tryd.strconv_ParseInt_10_at64_range (strB l) (by rw [strB_size]; exact hl) hp er w hr1 hr2
    go_enter Tryd.func106, Tryd.ntmps106
    go_wp2_with fail
    refine hc.mono ?_
    rintro e w1 ⟨N, rfl, -, -, hb1⟩
    go_wp2_with fail
    go_ret2
    exact ⟨rfl, hb1⟩
end Go.Proofs.YtdohockbmphhfacDoor
