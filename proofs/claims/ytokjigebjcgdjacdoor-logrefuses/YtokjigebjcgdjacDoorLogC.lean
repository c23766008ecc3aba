/-
  The walks of bytes.Clone and of a log's Bytes, Round.
-/
import Derived.Test.YtokjigebjcgdjacDoorLogB
import Derived.Test.YtokjigebjcgdjacDoorBytC
import Derived.Lib.SliceRun
namespace Go.Proofs.YtokjigebjcgdjacDoor
open Go.RowKit

theorem nilB (w : World) (a : Option Addr) (n c n' c' : Nat) : (binOp .eql 26 (.slice a n c) (.slice none n' c')).run Tryd.prog w = .ok (.bool a.isNone) w := Lib.run_eql_slice_nil w _ _ a n c n' c' Tryd.underlying26

theorem wpList_append_none0 {w : World} {ops : Array Oper} {rest : List Oper} {o : Oper} {a : Act} {Q : Exit → Act → World → Prop} (hgd : o.guard = none) (x y : Operand)
    (ho : o.op = .call { callee := .builtin .append, args := #[x, y], argTypes := #[26, 26] }) (g n cap : Nat) (hx : a.eval x = .slice (some ⟨g, 0, none⟩) n cap) (hn : n ≤ cap) (da : Option Addr) (c : Nat) (hy : a.eval y = .slice da 0 c)
    (h : wpList Tryd.prog ops Q rest (a.put o.dst (.slice (some ⟨g, 0, none⟩) n cap)) w) : wpList Tryd.prog ops Q (o :: rest) a w := by
  refine wpList_plain hgd fun K hK => ?_
  have hrun := run_append_none w o.type g n cap c hn da
  unfold Oper.wp
  simp [execOp, ho, resolve, invoke, builtin, hx, hy, hrun, Result.andThen]
  exact hK _ _ h

set_option maxRecDepth 100000 in
set_option maxHeartbeats 400000 in
theorem clone_any {v : Value} {l : List Int} {w : World} (h : BytesAt w v l) (hl : l.length ≤ 100000) :
    Calls Tryd.prog 38 #[v] w fun e w' => (∃ u, e = .returned u ∧ BytesIn (fun b => w.heap.size ≤ b) w' u l) ∧ Below w.heap.size w w' := by
  obtain ⟨i0, hi, hz0, hz1, hz2⟩ := info_parts infoU8
  have hnil := nilB
  obtain ⟨a, cap, rfl, -⟩ := id h
  cases a with
  | none =>
    obtain rfl : l = [] := by
      cases l with
      | nil => rfl
      | cons x l => obtain ⟨a', c', e, -, hc⟩ := h; cases e; obtain ⟨b, off, -, e, -⟩ := hc 0 (by simp); cases e
    clear h
    go_enter Tryd.func38, Tryd.ntmps38
    go_wp2_with fail
    go_ret
    exact ⟨⟨_, rfl, none, 0, rfl, Nat.le_refl _, fun i hi => by simp at hi⟩, Below.refl _ _⟩
  | some ad =>
    have hB0 : Below w.heap.size w (w.alloc (.cells #[] 5)) := (Below.refl _ _).alloc (Nat.le_refl _) _
    have hO : (w.alloc (.cells #[] 5)).ownsRow w.heap.size 5 1 (.slice (some ⟨w.heap.size, 0, none⟩) 0 0) 0 [] := ⟨rfl, .inr ⟨w.heap.size, 0, #[], rfl, Nat.le_refl _, heap_alloc_new w _, Nat.le_refl _, by decide, rfl, rfl⟩⟩
    by_cases h0 : 0 < l.length
    · obtain ⟨b, off, e, hc⟩ := BytesIn.cells (h.later hB0) h0
      cases e
      have HN : Hid (∀ j u, (byteCells l)[j]? = some u → (w.alloc (.cells #[] 5)).cell? ((⟨b, off, none⟩ : Addr).add j) = some u) := hc
      have HL : Hid ((byteCells l).length = l.length * 1) := by show _ = _; rw [byteCells_length]; omega
      clear hc h
      go_enter Tryd.func38, Tryd.ntmps38
      go_wp2_with (at_builtin; refine wpList_append_own _ rfl _ _ 26 rfl w.heap.size 5 i0 (.int .u8 0) 1 1 Tryd.underlying26 hi hz0 hz1 hz2 rfl (by decide) _ 0 [] rfl hO ⟨b, off, none⟩ l.length cap (byteCells l) rfl HL.out HN.out (byteCells_one _) (by unfold maxLen; omega) (by omega) (by simp) ?_; intro v4 w4 hO4 hgrow4 hnil4; rw [Nat.zero_add, List.nil_append] at hO4)
      go_ret
      exact ⟨⟨_, rfl, owns_bytes hO4⟩, hB0.grown hgrow4 (by simp) (fun k hk => by cases hk; exact Nat.le_refl _)⟩
    · obtain rfl : l = [] := List.eq_nil_of_length_eq_zero (by omega)
      clear h
      go_enter Tryd.func38, Tryd.ntmps38
      go_wp2_with (at_builtin; refine wpList_append_none0 rfl _ _ rfl w.heap.size 0 0 rfl (Nat.le_refl _) (some ad) cap rfl ?_)
      go_ret
      exact ⟨⟨_, rfl, _, 0, rfl, Nat.le_refl _, fun i hi => by simp at hi⟩, hB0⟩

section
variable {P : Nat → Prop} {w : World} {C : Nat} {l : List (List (List Op5))} {k : Nat}
set_option maxRecDepth 100000 in
set_option maxHeartbeats 400000 in
theorem logBytes_any (h : LogAt P w C l k) : Calls Tryd.prog 20 #[.pointer (some ⟨C, 0, none⟩)] w fun e w' => (∃ u, e = .returned (.tuple #[u, .int .i64 (endB l k : Int)]) ∧ BytesIn (fun b => w.heap.size ≤ b) w' u (allB l)) ∧ Below w.heap.size w w' := by
  obtain ⟨ho, va, ve, h⟩ := h
  have hs := ho.short
  have hB := h.bytes
  have hc := fun (w' : World) (hb : Below w.heap.size w w') => clone_any (hB.at.later hb) (by omega)
  obtain ⟨aa, acap, rfl, -⟩ := owns_slice h.ra
  have c0 := h.c0
  have c2 := h.c2
  have c2d : w.drew.cell? ⟨C, 2, none⟩ = some (.int .i64 (endB l k : Int)) := c2
  clear h hB
  generalize allB l = A at *
  generalize endB l k = E at *
  go_enter Tryd.func20, Tryd.ntmps20
  go_wp2_with fail
  go_region_with (go_at_call 38; refine (hc _ (Below.refl _ _).drew).mono ?_; rintro e w1 ⟨⟨u, rfl, hU⟩, hb1⟩; have d2 := cell_later hb1 c2d)
  all_goals go_wp2_with fail
  all_goals refine bodyPost_ret (results_tmp2 rfl _ _ _) rfl ?_
  all_goals exact ⟨⟨_, rfl, hU⟩, (Below.refl _ _).drew.trans hb1⟩

/-- What Round tells. -/
def RoundOut (w' : World) (e : Ending) (l : List (List (List Op5))) (n : Int) : Prop := (∃ h : n.toNat < l.length, 0 ≤ n ∧ ∃ u, e = .returned (.tuple #[u, .bool true]) ∧ RoundAt w' u l[n.toNat]) ∨ ((n < 0 ∨ (l.length : Int) ≤ n) ∧ e = .returned (.tuple #[.slice none 0 0, .bool false]))

set_option maxRecDepth 100000 in
set_option maxHeartbeats 1000000 in
theorem logRound_any (h : LogAt P w C l k) (n : Int) (hL : Lim w) : Calls Tryd.prog 19 #[.pointer (some ⟨C, 0, none⟩), .int .i64 n] w fun e w' => RoundOut w' e l n ∧ Below w.heap.size w w' := by
  have hlen := logLen_any h
  have ho := h.ok
  by_cases h1 : n < 0
  · clear h hlen
    go_enter Tryd.func19, Tryd.ntmps19
    go_wp2_with fail
    refine bodyPost_ret (results_tmp2 rfl _ _ _) rfl ?_
    exact ⟨.inr ⟨.inl h1, rfl⟩, Below.refl _ _⟩
  · by_cases h2 : (l.length : Int) ≤ n
    · clear h
      go_enter Tryd.func19, Tryd.ntmps19
      go_wp2_with fail
      refine hlen.mono ?_
      rintro e w1 ⟨rfl, rfl⟩
      go_wp2_with fail
      refine bodyPost_ret (results_tmp2 rfl _ _ _) rfl ?_
      exact ⟨.inr ⟨.inr h2, rfl⟩, Below.refl _ _⟩
    · obtain ⟨m, rfl⟩ := Int.eq_ofNat_of_zero_le (by omega : 0 ≤ n)
      have hm : m < l.length := by omega
      have hup := fun (w' : World) (hb : Below w.heap.size w w') => logUpTo_any (h.later hb) (n := m) (by omega)
      obtain ⟨-, va, ve, h⟩ := h
      have hs := ho.short
      have hB := h.bytes
      obtain ⟨aa, acap, rfl, -⟩ := owns_slice h.ra
      have c0 := h.c0
      have he := endB_le (l := l) (i := m) (by omega)
      obtain ⟨sv, hsv, hS⟩ := cut_l (W := w) hB.at (m := (endB l m : Int)) (by omega) (by omega)
      rw [Int.toNat_natCast, allB_drop] at hS
      have hD : Hid (decF (allB (l.drop m)) = (l[m], ((encB l[m]).length : Int), 0)) := by
        show _ = _
        rw [allB_at hm]; exact (ho.good _ (List.getElem_mem hm)).dec _
      have hA : AllB (allB (l.drop m)) := allB_all fun r hr => ho.good r (List.mem_of_mem_drop hr)
      have hdl : (allB (l.drop m)).length ≤ 4000 := by rw [← allB_drop, List.length_drop]; omega
      have HS : Hid (BytesAt w sv (allB (l.drop m))) := hS
      have t1 : ¬ ((m : Int) < 0) := h1
      have t2 : ¬ ((l.length : Int) ≤ (m : Int)) := h2
      have c0d : w.drew.cell? ⟨C, 0, none⟩ = some (.slice aa (allB l).length acap) := c0
      have hupd := hup _ (Below.refl _ _).drew
      clear h hB hS hup
      generalize allB (l.drop m) = Z at *
      generalize endB l m = E at *
      generalize (allB l).length = A at *
      go_enter Tryd.func19, Tryd.ntmps19
      go_wp2_with fail
      refine hlen.mono ?_
      rintro e w1 ⟨rfl, rfl⟩
      go_wp2_with fail
      have hdec := dec_any (HS.out.later (Below.refl _ _).drew) hA (by omega) (hL.later (Below.refl _ _).drew)
      rw [hD.out] at hdec
      clear hlen HS hL hD hA t1 t2 ho
      go_region_with (first | (go_at_call 37; refine hupd.mono ?_; rintro e w2 ⟨rfl, rfl⟩) | (go_at_call 11; refine hdec.mono ?_; rintro e w3 ⟨⟨y, rfl, hY⟩, hb3⟩))
      all_goals go_wp2_with fail
      all_goals refine bodyPost_ret (results_tmp2 rfl _ _ _) rfl ?_
      all_goals exact ⟨.inl ⟨by rw [Int.toNat_natCast]; exact hm, by omega, _, rfl, hY⟩, (Below.refl _ _).drew.trans hb3⟩
end
end Go.Proofs.YtokjigebjcgdjacDoor
