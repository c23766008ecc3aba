/-
  The walk of round.New.
-/
import Derived.Test.YtihfjmdjjeciiacDoorRndBJ
import Derived.Laws.OwnMore
namespace Go.Proofs.YtihfjmdjjeciiacDoor
open Go.RowKit Go.Shelf

theorem infoP : (Tryd.prog.info? 148).map (fun i => (i.zero, i.size, i.bytes)) = some (some (.pointer none), 1, 8) := by kernel_rfl
theorem make_ptrs (n : Nat) (hn : n ≤ 8) : ∃ cs : Array Value, cs.size = n * 1 ∧ ∀ w, (Instr.makeSlice 136 (.int .i64 (n : Int)) (.int .i64 (n : Int))).run Tryd.prog w = .ok (.slice (some ⟨w.heap.size, 0, none⟩) n n) (w.alloc (.cells cs 148)) := by
  obtain ⟨i, hi, hz, hs, hb⟩ := info_parts infoP
  refine ⟨madeCells (Value.pointer none).cells (n * i.size), ?_, fun w => ?_⟩
  · rw [size_madeCells, hs]
  · have := run_make (P := Tryd.prog) w 136 148 i _ Tryd.underlying136 hi hz .i64 .i64 n n (by omega) (Int.le_refl _) (by rw [hb]; omega) (by omega)
    simp only [Int.toNat_natCast] at this
    exact this

/-- A round while it is made: j workers stand in the row. -/
structure RdN (w : World) (c : Nat → Nat) (N B G : Nat) (C : Nat → Nat) (U : Nat → Value) (j : Nat) (r : List (List Op5)) (T : Nat → List Slot4) (xs : List Value) : Prop where
  tab : TabAt w B T
  cB : c B = 2
  row : w.ownsRow N 148 1 (.slice (some ⟨G, 0, none⟩) r.length r.length) r.length xs
  cG : c G = 3
  is : ∀ i, i < j → xs[i]? = some (.pointer (some ⟨C i, 0, none⟩))
  wk : ∀ i, i < j → WorkAt w (C i) (U i) i wk0
  ck : ∀ i, i < j → c (C i) = 100 + i
  dd : ∀ i, i < j → ∀ h : i < r.length, DeedIn (fun g => c g = 5) w (U i) r[i]
  low : ∀ b, b < N → c b = 0

section
variable {w w' : World} {c : Nat → Nat} {N B G : Nat} {C : Nat → Nat} {U : Nat → Value} {j : Nat} {r : List (List Op5)} {T : Nat → List Slot4} {xs : List Value}

theorem RdN.Glt (h : RdN w c N B G C U j r T xs) : N ≤ G ∧ G < w.heap.size := owns_lt h.row rfl
/-- One worker more. -/
theorem RdN.add (h : RdN w c N B G C U j r T xs) (hj : j < r.length) (_hN : N ≤ w.heap.size) (hb : Below w.heap.size w w') {Cn : Nat} {u : Value} (hC : w.heap.size ≤ Cn) (hW : WorkAt w' Cn u j wk0) (hD : DeedIn (fun g => w.heap.size ≤ g ∧ g ≠ Cn) w' u r[j]) :
    ∃ c', RdN (w'.setCell ⟨G, j, none⟩ (.pointer (some ⟨Cn, 0, none⟩))) c' N B G (putN C j Cn) (putV U j u) (j + 1) r T (xs.set j (.pointer (some ⟨Cn, 0, none⟩))) := by
  have hG := h.Glt
  have hxl : xs.length = r.length := by have := h.row.1; omega
  have hgs : Grew (fun b => b = G) w' (w'.setCell ⟨G, j, none⟩ (.pointer (some ⟨Cn, 0, none⟩))) := Grew.of_grown (grown_setCell w' ⟨G, j, none⟩ _) rfl
  obtain ⟨c', hc'⟩ : ∃ c' : Nat → Nat, c' = fun b => if b < w.heap.size then c b else if b = Cn then 100 + j else 5 := ⟨_, rfl⟩
  have hlo : ∀ b, b < w.heap.size → c' b = c b := fun b hb => by rw [hc']; simp [hb]
  have hcn : c' Cn = 100 + j := by rw [hc']; dsimp only; rw [if_neg (by omega), if_pos rfl]
  have hhi : ∀ b, w.heap.size ≤ b → b ≠ Cn → c' b = 5 := fun b h1 h2 => by rw [hc']; dsimp only; rw [if_neg (by omega), if_neg h2]
  have hBl := h.tab.lt
  have hBG : B ≠ G := fun e => by have h1 := h.cB; have h2 := h.cG; rw [e] at h1; omega
  have tab_kept : TabAt (w'.setCell ⟨G, j, none⟩ (.pointer (some ⟨Cn, 0, none⟩))) B T := by
    have h1 := h.tab.later hb
    refine ⟨fun k hk => ?_, fun o => by rw [World.frozen?_setCell]; exact h1.free o⟩
    have h2 := h1.row k hk
    exact h2.kept (hgs.block B (by have := hb.size; omega) hBG)
  clear hc'
  refine ⟨c', tab_kept, by rw [hlo B hBl]; exact h.cB, ((owns_below h.row hb).stored j _).1, by rw [hlo G hG.2]; exact h.cG, fun i hi => ?_, fun i hi => ?_, fun i hi => ?_, fun i hi hr => ?_, fun b hb' => by rw [hlo b (by omega)]; exact h.low b hb'⟩
  · unfold putN
    by_cases e : i = j
    · subst e; rw [if_pos rfl, List.getElem?_set_self (by omega)]
    · rw [if_neg e, List.getElem?_set_ne (by omega)]; exact h.is i (by omega)
  · unfold putN putV
    by_cases e : i = j
    · subst e; rw [if_pos rfl, if_pos rfl]; exact hW.grew hgs (by omega)
    · rw [if_neg e, if_neg e]
      exact ((h.wk i (by omega)).later hb).grew hgs (fun e' => by have h1 := h.ck i (by omega); have h2 := h.cG; rw [e'] at h1; omega)
  · unfold putN
    by_cases e : i = j
    · subst e; rw [if_pos rfl]; exact hcn
    · rw [if_neg e, hlo _ (h.wk i (by omega)).lt]; exact h.ck i (by omega)
  · unfold putV
    by_cases e : i = j
    · subst e; rw [if_pos rfl]
      exact (hD.grew hgs (fun b hb' e' => by omega)).mono fun b _ hb' => hhi b hb'.1 hb'.2
    · rw [if_neg e]
      have h2 : DeedIn (fun g => c g = 5 ∧ g < w.heap.size) w (U i) r[i] := (h.dd i (by omega) hr).mono fun b hb' hp => ⟨hp, hb'⟩
      refine ((h2.later hb).grew hgs (fun b hb' e' => ?_)).mono fun b _ hb' => by rw [hlo b hb'.2]; exact hb'.1
      have := h.cG; rw [← e'] at this; omega
/-- All workers stand there. -/
theorem RdN.full (h : RdN w c N B G C U r.length r T xs) (_hN : N ≤ w.heap.size) {t : TypeId} :
    ∃ c', RdAt (w.alloc (.cells #[.pointer (some ⟨B, 0, none⟩), .slice (some ⟨G, 0, none⟩) r.length r.length] t)) c' N w.heap.size B (.slice (some ⟨G, 0, none⟩) r.length r.length) C U r (fun _ => wk0) T := by
  have hb : Below w.heap.size w (w.alloc (.cells #[.pointer (some ⟨B, 0, none⟩), .slice (some ⟨G, 0, none⟩) r.length r.length] t)) := (Below.refl _ _).alloc (Nat.le_refl _) _
  have hG := h.Glt
  have hlo : ∀ b, b < w.heap.size → recol c w.heap.size 1 b = c b := fun b hb => by unfold recol; rw [if_neg (by omega)]
  have hxs : xs = ptrs C r.length := by
    apply List.ext_getElem?
    intro i
    have hxl : xs.length = r.length := by have := h.row.1; omega
    by_cases hi : i < r.length
    · rw [h.is i hi, ptrs_at C hi]
    · rw [List.getElem?_eq_none (by omega), List.getElem?_eq_none (by simp [ptrs]; omega)]
  refine ⟨recol c w.heap.size 1, by simp, by simp, by unfold recol; rw [if_pos rfl], h.tab.later hb, by rw [hlo B h.tab.lt]; exact h.cB, ⟨by rw [← hxs]; exact owns_below h.row hb, fun g hg => ?_, fun i hi => (h.wk i hi).later hb, fun i hi => by rw [hlo _ (h.wk i hi).lt]; exact h.ck i hi, fun i hi hr => ?_⟩, fun b hb' => by rw [hlo b (by omega)]; exact h.low b hb'⟩
  · obtain rfl : G = g := by simpa [Value.ownBlock] using hg
    rw [hlo G hG.2]; exact h.cG
  · have h2 : DeedIn (fun g => c g = 5 ∧ g < w.heap.size) w (U i) r[i] := (h.dd i hi hr).mono fun b hb' hp => ⟨hp, hb'⟩
    exact (h2.later hb).mono fun b _ hb' => by rw [hlo b hb'.2]; exact hb'.1
end

/-- The row is made. -/
theorem rdN_first {w1 : World} {N B : Nat} {r : List (List Op5)} {T : Nat → List Slot4} {cs : Array Value} (hcs : cs.size = r.length * 1) (h8 : r.length ≤ 8) (hT : TabAt w1 B T) (hB : N ≤ B) (hN : N ≤ w1.heap.size) :
    ∃ c, RdN (w1.alloc (.cells cs 148)) c N B w1.heap.size (fun _ => 0) (fun _ => .slice none 0 0) 0 r T cs.toList := by
  have hBl := hT.lt
  refine ⟨fun b => if b = B then 2 else if b = w1.heap.size then 3 else 0, hT.later ((Below.refl _ _).alloc (Nat.le_refl _) _), by simp, World.ownsRow_lit w1 cs r.length hN (by unfold maxLen; omega) hcs, ?_, fun i hi => absurd hi (by omega), fun i hi => absurd hi (by omega), fun i hi => absurd hi (by omega), fun i hi => absurd hi (by omega), fun b hb => ?_⟩
  · rw [if_neg (by omega), if_pos rfl]
  · rw [if_neg (by omega), if_neg (by omega)]

set_option maxRecDepth 100000 in
set_option maxHeartbeats 2000000 in
theorem round_new (v : Value) (r : List (List Op5)) (s : Nat → Int) (w : World) (hr : RoundAt w v r) (hf : Fits r) (h0 : roundF r = 0) (hL : Lim w) :
    Calls Tryd.prog 80 #[stV s, v] w fun e w' => ∃ c E B vW C U, e = .returned (.tuple #[.pointer (some ⟨E, 0, none⟩), .int .i64 0]) ∧ RdIn w' c w.heap.size E B vW C U s r (fun _ => wk0) (newF s r) ∧ Below w.heap.size w w' := by
  obtain ⟨h8, hck⟩ := roundF_zero.1 h0
  obtain ⟨cs, hcs, hmk⟩ := make_ptrs r.length h8
  have hB0 : Below w.heap.size w (w.alloc (.cells #[.int .i64 (s 0), .int .i64 (s 1), .int .i64 (s 2), .int .i64 (s 3), .int .i64 (s 4), .int .i64 (s 5), .int .i64 (s 6), .int .i64 (s 7), .int .i64 (s 8), .int .i64 (s 9)] 71)) := (Below.refl _ _).alloc (Nat.le_refl _) _
  have hnew := new_good v r s _ (hr.later hB0) hf h0 (hL.later hB0)
  obtain ⟨a, cap, rfl, hr0⟩ := hr
  have HCK : Hid (∀ d ∈ r, (checkF d).1 = 0) := hck
  clear h0 hck
  show Calls Tryd.prog 80 #[.agg #[.int .i64 (s 0), .int .i64 (s 1), .int .i64 (s 2), .int .i64 (s 3), .int .i64 (s 4), .int .i64 (s 5), .int .i64 (s 6), .int .i64 (s 7), .int .i64 (s 8), .int .i64 (s 9)], _] w _
  go_enter Tryd.func80, Tryd.ntmps80
  go_wp2_with fail
  refine hnew.mono ?_
  clear hnew
  rintro e w1 ⟨B, rfl, hB, hT, hb1⟩
  have hBN : w.heap.size ≤ B := Nat.le_trans hB0.size hB
  have hB1 : Below w.heap.size w w1 := hB0.trans (hb1.mono hB0.size)
  obtain ⟨c, hN0⟩ := rdN_first hcs h8 hT hBN hB1.size
  have hB2 : Below w.heap.size w (w1.alloc (.cells cs 148)) := hB1.alloc hB1.size _
  have hG : w.heap.size ≤ w1.heap.size := hB1.size
  clear hb1 hB0 hT hB hB1
  go_wp2_with fail
  clear hmk
  generalize w1.alloc (.cells cs 148) = W1 at *
  generalize w1.heap.size = G at *
  go_loopg [25] r.length (fun g i wr => ∃ (j : Nat) (c : Nat → Nat) (C : Nat → Nat) (U : Nat → Value) (xs : List Value), j ≤ r.length ∧ g = r.length - j ∧ i = .int .i64 j ∧ RdN wr c w.heap.size B G C U j r (newF s r) xs ∧ Below w.heap.size w wr)
  case atStart => exact ⟨0, c, _, _, _, by omega, by omega, rfl, hN0, hB2⟩
  case round =>
    clear hN0 hB2
    obtain ⟨j, c, C, U, xs, hj, hg, rfl, hn, hBl⟩ := hrel
    by_cases hlt : j < r.length
    · obtain ⟨b, off, rfl, dv, c0, hD⟩ := hr0 j hlt
      replace c0 := cell_later hBl c0
      have hwn := worker_new dv r[j] j wr (hD.later hBl) (HCK.out _ (List.getElem_mem hlt)) (by omega) (hL.later hBl)
      have hji : (j : Int) < (r.length : Int) := by omega
      clear hr0 hD
      go_wp2_with fail
      refine hwn.mono ?_
      clear hwn
      rintro e w2 ⟨Cn, u, rfl, hCn, hWk, hDn, hb2⟩
      have hBl2 : Below w.heap.size w w2 := hBl.trans (hb2.mono hBl.size)
      have hrow := owns_below hn.row hb2
      have hxl := hrow.1
      have k0 := hrow.cellAt j (by omega)
      rw [List.getElem?_eq_getElem (by omega)] at k0
      have u1 := hrow.frozenAt
      have HN : Hid _ := hn.add hlt hBl.size hb2 hCn hWk hDn
      clear hrow hn hWk hDn hCn c0 hBl hb2
      go_wp2_with fail
      go_roundg (r.length - (j + 1))
      case measure => omega
      case rel =>
        obtain ⟨c', hn'⟩ := HN.out
        exact ⟨j + 1, c', _, _, _, by omega, rfl, by go_num, hn', hBl2.setCell (p := ⟨G, j, none⟩) hG _⟩
    · obtain rfl : j = r.length := by omega
      clear hr0
      have HF : Hid _ := hn.full (t := 138) hBl.size
      clear hn
      obtain ⟨c', hfull⟩ := HF.out
      have HF' : Hid _ := hfull
      clear hfull HF
      go_wp2_with fail
      exact bodyPost_ret (v := .tuple #[.pointer (some ⟨wr.heap.size, 0, none⟩), .int .i64 0]) (by simp [results, Tryd.results80, go_sem]) rfl ⟨c', _, B, _, C, U, rfl, ⟨HF'.out, inOrder_new s r, HCK.out, h8⟩, hBl.alloc hBl.size _⟩

set_option maxHeartbeats 1000000 in
theorem round_bad (v : Value) (r : List (List Op5)) (s : Nat → Int) (w : World) (hr : RoundAt w v r) (hf : Fits r) (h0 : ¬ roundF r = 0) (hL : Lim w) :
    Calls Tryd.prog 80 #[stV s, v] w fun e w' => e = .returned (.tuple #[.pointer none, .int .i64 (roundF r)]) ∧ Below w.heap.size w w' := by
  have hB0 : Below w.heap.size w (w.alloc (.cells #[.int .i64 (s 0), .int .i64 (s 1), .int .i64 (s 2), .int .i64 (s 3), .int .i64 (s 4), .int .i64 (s 5), .int .i64 (s 6), .int .i64 (s 7), .int .i64 (s 8), .int .i64 (s 9)] 71)) := (Below.refl _ _).alloc (Nat.le_refl _) _
  have hnew := new_bad v r s _ (hr.later hB0) hf h0 (hL.later hB0)
  obtain ⟨cc, hc⟩ : ∃ cc, cc = roundF r := ⟨_, rfl⟩
  rw [← hc] at h0 hnew ⊢
  have t0 : (cc != 0) = true := by simp [h0]
  clear hc h0
  show Calls Tryd.prog 80 #[.agg #[.int .i64 (s 0), .int .i64 (s 1), .int .i64 (s 2), .int .i64 (s 3), .int .i64 (s 4), .int .i64 (s 5), .int .i64 (s 6), .int .i64 (s 7), .int .i64 (s 8), .int .i64 (s 9)], _] w _
  go_enter Tryd.func80, Tryd.ntmps80
  go_wp2_with fail
  refine hnew.mono ?_
  clear hnew
  rintro e w1 ⟨rfl, hb1⟩
  go_wp2_with fail
  exact bodyPost_ret (v := .tuple #[.pointer none, .int .i64 cc]) (by simp [results, Tryd.results80, go_sem]) rfl ⟨rfl, hB0.trans (hb1.mono hB0.size)⟩
end Go.Proofs.YtihfjmdjjeciiacDoor
