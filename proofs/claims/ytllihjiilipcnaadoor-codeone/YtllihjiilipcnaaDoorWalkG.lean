/-
  The walk of the law.
-/
import Derived.Test.YtllihjiilipcnaaDoorWalkF
import Derived.Deep.RegionLaw
import Derived.Deep.Cut
namespace Go.Proofs.YtllihjiilipcnaaDoor
open Go.RowKit

set_option maxHeartbeats 1000000 in
theorem law_stop (v : Value) (r : List (List Op5)) (i : Int) (w : World) (hr : RoundAt w v r) (hf : Fits r) (hL : Lim w) (hs : ¬ roundF r = 0 ∨ r.length = 0) :
    Calls Tryd.prog 3 #[v, .int .i64 i] w fun e w' => e = .returned (.bool true) ∧ Below w.heap.size w w' := by
  have HR := hr
  obtain ⟨a, cap, rfl, -⟩ := hr
  go_enter Tryd.func3, Tryd.ntmps3
  go_wp2_with fail
  refine (begun_any _ hL).mono ?_
  rintro e w1 ⟨rfl, hb1⟩
  go_wp2_with fail
  refine (great_any _ r _ (HR.later hb1) hf).mono ?_
  rintro e w2 ⟨⟨g, rfl⟩, rfl⟩
  cases g
  · go_wp2_with fail
    refine (round_any _ r _ (HR.later hb1) hf (hL.later hb1)).mono ?_
    rintro e w3 ⟨rfl, hb3⟩
    have hB3 : Below w.heap.size w w3 := hb1.trans (hb3.mono hb1.size)
    clear hb3 hb1 HR
    by_cases h0 : roundF r = 0
    · have hl : r.length = 0 := by rcases hs with h | h; exact absurd h0 h; exact h
      clear hs
      go_wp2_with fail
      go_ret
      exact ⟨rfl, hB3⟩
    · clear hs
      go_wp2_with fail
      all_goals go_ret
      all_goals exact ⟨rfl, hB3⟩
  · go_wp2_with fail
    go_ret
    exact ⟨rfl, hb1⟩

theorem index_lt (i : Int) (n : Nat) (h : 0 < n) (h8 : n ≤ 8) : ∃ m : Nat, m < n ∧ wrap64 ((IntKind.u64.wrap i).tmod (n : Int)) = (m : Int) := by
  rw [IntKind.wrap_u64]
  have h0 : 0 ≤ i % 18446744073709551616 := Int.emod_nonneg _ (by decide)
  generalize i % 18446744073709551616 = x at h0
  rw [Int.tmod_eq_emod_of_nonneg h0]
  have h1 : 0 ≤ x % (n : Int) := Int.emod_nonneg _ (by omega)
  have h2 : x % (n : Int) < n := Int.emod_lt_of_pos _ (by omega)
  generalize x % (n : Int) = y at h1 h2
  refine ⟨y.toNat, by omega, ?_⟩
  rw [IntWalk.wrap64_in y ⟨by omega, by omega⟩]
  omega

/-- append onto a slice of the call's own, as one step of a region that draws. -/
theorem step_append_own {P : Program} {ops : Array Oper} {o : Oper} {a : Act} {w : World} {K : Act → World → Prop} {Q : Exit → Act → World → Prop} {E : Prop}
    (hgd : o.guard = none) (s x : Operand) (t : TypeId) (ho : o.op = .call { callee := .builtin .append, args := #[s, x], argTypes := #[t, t] })
    (base : Nat) (e : TypeId) (i : TypeInfo) (z : Value) (size bytes : Nat) (ht : P.underlying t = some (.slice e)) (hi : P.info? e = some i) (hz : i.zero = some z)
    (hsize : i.size = size) (hby : i.bytes = bytes) (hzs : z.cells.size = size) (hsz : 0 < size)
    (v : Value) (n : Nat) (xs : List Value) (hs : a.eval s = v) (hown : w.ownsRow base e size v n xs)
    (ad : Addr) (m c : Nat) (news : List Value) (hx : a.eval x = .slice (some ad) m c) (hl : news.length = m * size) (hnews : ∀ j u, news[j]? = some u → w.cell? (ad.add j) = some u) (h1 : ∀ u ∈ news, u.oneCell' = true)
    (h63 : n + m ≤ maxLen) (hbytes : (n + m) * bytes ≤ 140737488355328) (hbase : base ≤ w.heap.size)
    (h : ∀ v' w', w'.ownsRow base e size v' (n + m) (xs ++ news) → w.grownBy w' v.ownBlock → K (a.put o.dst v') w') :
    if Region.wanted o (yielded ops a.tmps) = true then Oper.wp P o a w K Q else E := by
  have hw : Region.wanted o (yielded ops a.tmps) = true := by simp [Region.wanted, hgd]
  rw [if_pos hw]
  exact wp_append_own w s x t ho base e i z size bytes ht hi hz hsize hby hzs hsz v n xs hs hown ad m c news hx hl hnews h1 h63 hbytes hbase (fun v' w' h2 h3 _ => h v' w' h2 h3)

/-- The deeds' values, one for each. -/
structure Vals (w : World) (b off : Nat) (r : List (List Op5)) (vs : List Value) : Prop where
  len : vs.length = r.length
  cell : ∀ j u, vs[j]? = some u → w.cell? ⟨b, off + j, none⟩ = some u
  deed : ∀ j (h : j < r.length), ∃ u, vs[j]? = some u ∧ DeedAt w u r[j]

theorem Vals.one {w : World} {b off : Nat} {r : List (List Op5)} {vs : List Value} (h : Vals w b off r vs) : ∀ u ∈ vs, u.oneCell' = true := by
  intro u hu
  obtain ⟨j, hj, rfl⟩ := List.mem_iff_getElem.1 hu
  obtain ⟨x, hx, a, cap, rfl, -⟩ := h.deed j (by rw [← h.len]; exact hj)
  rw [List.getElem?_eq_getElem hj] at hx
  rw [Option.some.inj hx]; rfl
theorem Vals.later {w w' : World} {b off : Nat} {r : List (List Op5)} {vs : List Value} (hb : Below w.heap.size w w') (h : Vals w b off r vs) : Vals w' b off r vs :=
  ⟨h.len, fun j u hu => cell_later hb (h.cell j u hu), fun j hj => by
    obtain ⟨u, hu, hd⟩ := h.deed j hj
    exact ⟨u, hu, hd.later hb⟩⟩

/-- The deeds but one, in a row of the call's own. -/
theorem Vals.less {w : World} {b off base : Nat} {r : List (List Op5)} {vs : List Value} (h : Vals w b off r vs) {m : Nat} (hm : m < r.length) {v : Value}
    (ho : w.ownsRow base 32 1 v (m + (r.length - (m + 1))) (vs.take m ++ vs.drop (m + 1))) : RoundAt w v (r.take m ++ r.drop (m + 1)) := by
  have hlen : (r.take m ++ r.drop (m + 1)).length = m + (r.length - (m + 1)) := by simp; omega
  have hget : ∀ j (hj : j < (r.take m ++ r.drop (m + 1)).length), ∃ u, (vs.take m ++ vs.drop (m + 1))[j]? = some u ∧ DeedAt w u (r.take m ++ r.drop (m + 1))[j] := by
    intro j hj
    by_cases hjm : j < m
    · obtain ⟨u, hu, hd⟩ := h.deed j (by omega)
      refine ⟨u, ?_, ?_⟩
      · rw [List.getElem?_append_left (by rw [List.length_take, h.len]; omega), List.getElem?_take_of_lt hjm]; exact hu
      · rw [List.getElem_append_left (by rw [List.length_take]; omega), List.getElem_take]; exact hd
    · obtain ⟨u, hu, hd⟩ := h.deed (m + 1 + (j - m)) (by omega)
      refine ⟨u, ?_, ?_⟩
      · rw [List.getElem?_append_right (by rw [List.length_take, h.len]; omega), List.getElem?_drop, List.length_take, h.len, Nat.min_eq_left (by omega)]; exact hu
      · rw [List.getElem_append_right (by rw [List.length_take]; omega), List.getElem_drop]
        simp only [List.length_take, Nat.min_eq_left (show m ≤ r.length by omega)]; exact hd
  rcases ho.2 with ⟨rfl, h0⟩ | ⟨g, cap, cur, rfl, -⟩
  · exact ⟨none, 0, by rw [hlen, h0], fun j hj => by omega⟩
  · refine ⟨some ⟨g, 0, none⟩, cap, by rw [hlen], fun j hj => ⟨g, 0, rfl, ?_⟩⟩
    obtain ⟨u, hu, hd⟩ := hget j hj
    exact ⟨u, by rw [← add_off]; exact ho.cells (g := g) rfl j u hu, hd⟩

theorem below_none {w w' : World} (h : w.drew.grownBy w' none) : Below w.heap.size w w' := (Below.refl _ _).drew.grown h (Nat.le_refl _) (fun k hk => by cases hk)

theorem Fits.less {r : List (List Op5)} (h : Fits r) (m : Nat) : Fits (r.take m ++ r.drop (m + 1)) := by
  have hm : ∀ d ∈ r, d.length ≤ 9223372036854775807 := fun d hd => by
    obtain ⟨j, hj, rfl⟩ := List.mem_iff_getElem.1 hd
    exact h.2 j hj
  refine ⟨by have := h.1; simp only [List.length_append, List.length_take, List.length_drop]; omega, fun j hj => hm _ ?_⟩
  rcases List.mem_append.1 (List.getElem_mem hj) with hd | hd
  · exact List.mem_of_mem_take hd
  · exact List.mem_of_mem_drop hd
theorem check_len {d : List Op5} (h : (checkF d).1 = 0) : d.length ≤ 14 := by
  unfold checkF at h
  split at h
  · exact absurd h (by decide)
  · omega
theorem deed_one (w : World) (o : Op5) (n : Nat) (hn : n = w.heap.size) : DeedAt (w.alloc (.cells #[.int .i64 o.k, .int .i64 o.a, .int .i64 o.b, .int .i64 o.c, .int .i64 o.n] 34)) (.slice (some ⟨n, 0, none⟩) 1 1) [o] := by
  subst hn
  refine ⟨_, 1, rfl, fun i hi => ⟨w.heap.size, 0, rfl, ?_⟩⟩
  obtain rfl : i = 0 := by simpa using hi
  refine ⟨?_, ?_, ?_, ?_, ?_⟩ <;> simp
theorem check_plain (v : Value) (o : Op5) (w : World) (hd : DeedAt w v [o]) (hL : Lim w) (ha : aloneF o = 0) (h9 : ¬ o.k = 9) : Calls Tryd.prog 7 #[v] w fun e w' => e = .returned (.agg #[.int .i64 0, .int .i64 0]) ∧ Below w.heap.size w w' := by
  have h := check_any v [o] w hd (by simp) hL
  rw [checkF_one ha, if_neg h9] at h
  exact h
theorem check_skip (v : Value) (o : Op5) (w : World) (hd : DeedAt w v [o]) (hL : Lim w) (ha : aloneF o = 0) (h9 : o.k = 9) : Calls Tryd.prog 7 #[v] w fun e w' => e = .returned (.agg #[.int .i64 1, .int .i64 0]) ∧ Below w.heap.size w w' := by
  have h := check_any v [o] w hd (by simp) hL
  rw [checkF_one ha, if_pos h9] at h
  exact h

theorem fld0 (x y : Int) (w : World) : (Instr.field 29 (.agg #[.int .i64 x, .int .i64 y]) 0).run Tryd.prog w = .ok (.int .i64 x) w := by kernel_rfl

set_option maxHeartbeats 1000000 in
theorem law_go (b off cap : Nat) (r : List (List Op5)) (vs : List Value) (i : Int) (w : World) (hv : Vals w b off r vs) (hcap : r.length ≤ cap) (hf : Fits r) (hL : Lim w) (h0 : roundF r = 0) (hn : 0 < r.length) :
    Calls Tryd.prog 3 #[.slice (some ⟨b, off, none⟩) r.length cap, .int .i64 i] w fun e w' => e = .returned (.bool true) ∧ Below w.heap.size w w' := by
  have HR : RoundAt w (.slice (some ⟨b, off, none⟩) r.length cap) r := by
    refine ⟨_, cap, rfl, fun j hj => ⟨b, off, rfl, ?_⟩⟩
    obtain ⟨u, hu, hd⟩ := hv.deed j hj
    exact ⟨u, hv.cell j u hu, hd⟩
  have h8 := (roundF_zero.1 h0).1
  have H0 : Hid (roundF r = 0) := h0
  have hne : ((r.length : Int) == 0) = false := by rw [beq_eq_false_iff_ne]; omega
  clear h0
  go_enter Tryd.func3, Tryd.ntmps3
  go_wp2_with fail
  refine (begun_any _ hL).mono ?_
  rintro e w1 ⟨rfl, hb1⟩
  go_wp2_with fail
  refine (great_any _ r _ (HR.later hb1) hf).mono ?_
  rintro e w2 ⟨⟨g, rfl⟩, rfl⟩
  cases g
  · go_wp2_with fail
    refine (round_any _ r _ (HR.later hb1) hf (hL.later hb1)).mono ?_
    rintro e w3 ⟨rfl, hb3⟩
    have hB3 : Below w.heap.size w w3 := hb1.trans (hb3.mono hb1.size)
    clear hb3 hb1
    rw [H0.out]
    go_wp2_with fail
    obtain ⟨m, hm, em⟩ := index_lt i r.length hn h8
    rw [em]
    clear em
    have hic : m ≤ cap := by omega
    have hwr : IntKind.i64.wrap ((m : Int) + 1) = (m : Int) + 1 := by rw [IntKind.wrap_i64]; omega
    have hp0 : (0 : Int) ≤ (m : Int) + 1 := by omega
    have hp1 : (m : Int) + 1 ≤ (r.length : Int) := by omega
    have hp2 : ((m : Int) + 1).toNat = m + 1 := by omega
    have hv3 := hv.later hB3
    have hvl := hv.len
    obtain ⟨A, hA, HN⟩ : ∃ A : Addr, (if cap = m + 1 then some (⟨b, off, none⟩ : Addr) else some ⟨b, off + (m + 1), none⟩) = some A ∧ Hid (∀ wx, Below w3.heap.size w3 wx → ∀ j u, (vs.drop (m + 1))[j]? = some u → wx.cell? (A.add j) = some u) := by
      by_cases h : cap = m + 1
      · refine ⟨⟨b, off, none⟩, by simp [h], fun wx _ j u hu => ?_⟩
        rw [List.drop_eq_nil_of_le (by omega)] at hu
        simp at hu
      · refine ⟨⟨b, off + (m + 1), none⟩, by simp [h], fun wx hb j u hu => ?_⟩
        rw [add_off, Nat.add_assoc]
        rw [List.getElem?_drop] at hu
        exact cell_later hb (hv3.cell _ _ hu)
    have HT : Hid (∀ j u, (vs.take m)[j]? = some u → w3.drew.cell? ((⟨b, off, none⟩ : Addr).add j) = some u) := fun j u hu => by
      have hj : j < m := by
        have := (List.getElem?_eq_some_iff.1 hu).1
        rw [List.length_take] at this; omega
      rw [List.getElem?_take_of_lt hj] at hu
      rw [add_off]
      exact hv3.cell j u hu
    have l1 : Hid ((vs.take m).length = m * 1) := by show _ = _; rw [List.length_take, hvl]; omega
    have l2 : Hid ((vs.drop (m + 1)).length = (r.length - (m + 1)) * 1) := by show _ = _; rw [List.length_drop, hvl]; omega
    have o1 : Hid (∀ u ∈ vs.take m, u.oneCell' = true) := fun u hu => hv.one u (List.mem_of_mem_take hu)
    have o2 : Hid (∀ u ∈ vs.drop (m + 1), u.oneCell' = true) := fun u hu => hv.one u (List.mem_of_mem_drop hu)
    obtain ⟨k0, hk, hy0, hy1, hy2⟩ := info_parts info32
    go_cut [5] from 29 (fun s wc => wc.ownsRow w3.heap.size 32 1 s (m + (r.length - (m + 1))) (vs.take m ++ vs.drop (m + 1)) ∧ Below w3.heap.size w3 wc)
    case first =>
      go_region_law (first | (refine step_append_own rfl (.tmp 29) (.tmp 32) 23 rfl w3.heap.size 32 k0 (.slice none 0 0) 1 24 Tryd.underlying23 hk hy0 hy1 hy2 rfl (by decide) (.slice none 0 0) 0 [] (by simp [Act.eval, Act.put]) (World.ownsRow_nil _ _ _ _) ⟨b, off, none⟩ m cap (vs.take m) (by simp [Act.eval, Act.put]) l1.out HT.out o1.out (by unfold maxLen; omega) (by omega) (Nat.le_refl _) ?_; intro v1 w4 ho1 hg1; simp only [Nat.zero_add, List.nil_append] at ho1) | (refine step_append_own rfl (.tmp 33) (.tmp 37) 23 rfl w3.heap.size 32 k0 (.slice none 0 0) 1 24 Tryd.underlying23 hk hy0 hy1 hy2 rfl (by decide) v1 m (vs.take m) (by simp [Act.eval]) ho1 A (r.length - (m + 1)) (cap - (m + 1)) (vs.drop (m + 1)) (by simp [Act.eval]) l2.out (HN.out _ (below_none hg1)) o2.out (by unfold maxLen; omega) (by omega) (below_none hg1).size ?_; intro v2 w5 ho2 hg2))
      all_goals (have hB4 := below_none hg1; have hB5 : Below w3.heap.size w3 w5 := hB4.grown hg2 hB4.size (fun k hk => (ho1.lt k hk).1); go_wp2_with fail; go_meet)
      all_goals exact ⟨ho2, hB5⟩
    case rest =>
      obtain ⟨ho, hBc⟩ := hcut
      have hBw : Below w.heap.size w wc := hB3.trans (hBc.mono hB3.size)
      have hvc := hv3.later hBc
      have hless := hvc.less hm ho
      have hfl : Fits (r.take m ++ r.drop (m + 1)) := hf.less m
      have hR0 : Hid (roundF (r.take m ++ r.drop (m + 1)) = 0) := roundF_less H0.out m
      have hC0 : Hid ((checkF r[m]).1 = 0) := (roundF_zero.1 H0.out).2 _ (List.getElem_mem hm)
      have hlen14 : r[m].length ≤ 14 := check_len hC0.out
      have hal : Hid (∀ j (h : j < r[m].length), aloneF r[m][j] = 0) := fun j h => checkF_alone hC0.out _ (List.getElem_mem h)
      obtain ⟨u, hu, hD⟩ := hv.deed m hm
      have hcu := hv.cell m u hu
      have HD := hD
      obtain ⟨a', cap', rfl, hD⟩ := hD
      clear hic hwr hp0 hp1 hp2 hv3 hvl hA HN HT l1 l2 o1 o2 hk hy0 hy1 hy2 k0 hvc ho hv hB3 hBc H0 HR hne hn hu
      go_wp2_with fail
      refine (round_any _ _ _ hless hfl (hL.later hBw)).mono ?_
      rintro e w6 ⟨rfl, hb6⟩
      have hB6 : Below w.heap.size w w6 := hBw.trans (hb6.mono hBw.size)
      rw [hR0.out]
      clear hb6 hBw hless hfl
      have hc6 := cell_later hB6 hcu
      go_wp2_with fail
      refine (check_any _ r[m] _ (HD.later hB6) (by omega) (hL.later hB6)).mono ?_
      rintro e w7 ⟨rfl, hb7⟩
      have hB7 : Below w.heap.size w w7 := hB6.trans (hb7.mono hB6.size)
      rw [hC0.out]
      clear hb7 hB6 hc6
      have hfld := fld0
      go_wp2_with fail
      go_loopg [6] r[m].length (fun g k wr => ∃ j : Nat, j ≤ r[m].length ∧ g = r[m].length - j ∧ k = .int .i64 j ∧ Below w.heap.size w wr)
      case atStart => exact ⟨0, by omega, by omega, rfl, hB7⟩
      case round =>
        obtain ⟨j, hj, hg, rfl, hB⟩ := hrel
        have hcr := cell_later hB hcu
        by_cases hlt : j < r[m].length
        · obtain ⟨b', off', rfl, c0, c1, c2, c3, c4⟩ := hD j hlt
          replace c0 := cell_later hB c0
          replace c1 := cell_later hB c1
          replace c2 := cell_later hB c2
          replace c3 := cell_later hB c3
          replace c4 := cell_later hB c4
          have ha := hal.out j hlt
          have HA : Hid (aloneF r[m][j] = 0) := ha
          clear hD HD hal ha hB7
          by_cases h9 : r[m][j].k = 9
          · have t1 : (r[m][j].k != 9) = false := by simp [h9]
            have t2 : (r[m][j].k == 9) = true := by simp [h9]
            have H9 : Hid (r[m][j].k = 9) := h9
            clear h9
            have hB1 := hB.alloc hB.size (.cells #[.int .i64 r[m][j].k, .int .i64 r[m][j].a, .int .i64 r[m][j].b, .int .i64 r[m][j].c, .int .i64 r[m][j].n] 34)
            have hB2 := hB1.alloc hB1.size (.cells #[.int .i64 r[m][j].k, .int .i64 r[m][j].a, .int .i64 r[m][j].b, .int .i64 r[m][j].c, .int .i64 r[m][j].n] 34)
            go_wp2_with fail
            refine (check_skip _ r[m][j] _ (deed_one _ _ _ (by simp)) (hL.later hB2) HA.out H9.out).mono ?_
            rintro e w8 ⟨rfl, hb8⟩
            have hB8 : Below w.heap.size w w8 := hB2.trans (hb8.mono hB2.size)
            clear hb8 hB1 hB2
            go_wp2_with fail
            refine (F_any _ _ _).mono ?_
            rintro e w9 ⟨rfl, hb9⟩
            have hB9 : Below w.heap.size w w9 := hB8.trans (hb9.mono hB8.size)
            clear hb9 hB8
            go_wp2_with fail
            go_roundg (r[m].length - (j + 1))
            case measure => omega
            case rel => exact ⟨j + 1, by omega, rfl, by go_num, hB9⟩
          · have t1 : (r[m][j].k != 9) = true := by simp [h9]
            have t2 : (r[m][j].k == 9) = false := by simp [h9]
            have hB1 := hB.alloc hB.size (.cells #[.int .i64 r[m][j].k, .int .i64 r[m][j].a, .int .i64 r[m][j].b, .int .i64 r[m][j].c, .int .i64 r[m][j].n] 34)
            have hB2 := hB1.alloc hB1.size (.cells #[.int .i64 r[m][j].k, .int .i64 r[m][j].a, .int .i64 r[m][j].b, .int .i64 r[m][j].c, .int .i64 r[m][j].n] 34)
            go_wp2_with fail
            refine (check_plain _ r[m][j] _ (deed_one _ _ _ (by simp)) (hL.later hB2) HA.out h9).mono ?_
            rintro e w8 ⟨rfl, hb8⟩
            have hB8 : Below w.heap.size w w8 := hB2.trans (hb8.mono hB2.size)
            have hc8 : w8.cell? ⟨wr.heap.size, 0, none⟩ = some (.int .i64 r[m][j].k) := cell_later hb8 (by simp)
            clear hb8 hB1 hB2
            go_wp2_with fail
            go_roundg (r[m].length - (j + 1))
            case measure => omega
            case rel => exact ⟨j + 1, by omega, rfl, by go_num, hB8⟩
        · clear hD
          go_wp2_with fail
          go_ret
          exact ⟨rfl, hB⟩
  · go_wp2_with fail
    go_ret
    exact ⟨rfl, hb1⟩
end Go.Proofs.YtllihjiilipcnaaDoor
