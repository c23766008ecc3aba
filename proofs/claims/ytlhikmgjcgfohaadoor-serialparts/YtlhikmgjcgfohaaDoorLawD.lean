/-
  The walk of the law SerialParts.
-/
import Derived.Test.YtlhikmgjcgfohaaDoorWalkL
import Derived.Deep.RegionWith
import Derived.Deep.Cut
namespace Go.Proofs.YtlhikmgjcgfohaaDoor
open Go.RowKit

theorem RoundAt.take {w : World} {a : Option Addr} {cap : Nat} {r : List (List Op5)} (h : RoundAt w (.slice a r.length cap) r) {k : Nat} (hk : k ≤ r.length) : RoundAt w (.slice a k cap) (r.take k) := by
  refine ⟨a, cap, by rw [List.length_take, Nat.min_eq_left hk], fun i hi => ?_⟩
  have hi' : i < r.length := by rw [List.length_take] at hi; omega
  obtain ⟨b, off, e, dv, h1, h2⟩ := h.deed hi'
  exact ⟨b, off, e, dv, h1, by rw [List.getElem_take]; exact h2⟩
theorem RoundAt.drop {w : World} {a : Option Addr} {cap : Nat} {r : List (List Op5)} (h : RoundAt w (.slice a r.length cap) r) {k : Nat} (hk : k ≤ r.length) {A : Option Addr} {c : Nat} (hA : k < r.length → ∀ b off, a = some ⟨b, off, none⟩ → A = some ⟨b, off + k, none⟩) : RoundAt w (.slice A (r.length - k) c) (r.drop k) := by
  refine ⟨A, c, by rw [List.length_drop], fun i hi => ?_⟩
  rw [List.length_drop] at hi
  obtain ⟨b, off, e, dv, h1, h2⟩ := h.deed (i := k + i) (by omega)
  refine ⟨b, off + k, hA (by omega) b off e, dv, by rw [Nat.add_assoc]; exact h1, ?_⟩
  rw [List.getElem_drop]; exact h2
theorem Fits.part {r : List (List Op5)} (h : Fits r) {q : List (List Op5)} (hq : ∀ d ∈ q, d ∈ r) (hl : q.length ≤ r.length) : Fits q := by
  refine ⟨by have := h.1; omega, fun i hi => ?_⟩
  obtain ⟨j, hj, e⟩ := List.mem_iff_getElem.1 (hq _ (List.getElem_mem hi))
  rw [← e]; exact h.2 j hj

theorem part_lt (i : Int) (n : Nat) (h8 : n ≤ 8) : ∃ m : Nat, m ≤ n ∧ wrap64 ((IntKind.u64.wrap i).tmod ((n : Int) + 1)) = (m : Int) := by
  rw [IntKind.wrap_u64]
  have h0 : 0 ≤ i % 18446744073709551616 := Int.emod_nonneg _ (by decide)
  generalize i % 18446744073709551616 = x at h0
  rw [Int.tmod_eq_emod_of_nonneg h0]
  have h1 : 0 ≤ x % ((n : Int) + 1) := Int.emod_nonneg _ (by omega)
  have h2 : x % ((n : Int) + 1) < (n : Int) + 1 := Int.emod_lt_of_pos _ (by omega)
  generalize x % ((n : Int) + 1) = y at h1 h2
  refine ⟨y.toNat, by omega, ?_⟩
  rw [IntWalk.wrap64_in y ⟨by omega, by omega⟩]
  omega

theorem append_want {P : Program} (w : World) {ops : Array Oper} {rest : List Oper} {o : Oper} {a : Act} {Q : Exit → Act → World → Prop} (hgd : Region.wanted o (yielded ops a.tmps) = true) (s x : Operand) (t : TypeId)
    (ho : o.op = .call { callee := .builtin .append, args := #[s, x], argTypes := #[t, t] })
    (base : Nat) (e : TypeId) (i : TypeInfo) (z : Value) (size bytes : Nat) (ht : P.underlying t = some (.slice e)) (hi : P.info? e = some i) (hz : i.zero = some z)
    (hsize : i.size = size) (hby : i.bytes = bytes) (hzs : z.cells.size = size) (hsz : 0 < size)
    (v : Value) (n : Nat) (xs : List Value) (hs : a.eval s = v) (hown : w.ownsRow base e size v n xs)
    (ad : Addr) (m c : Nat) (news : List Value) (hx : a.eval x = .slice (some ad) m c) (hl : news.length = m * size) (hnews : ∀ j u, news[j]? = some u → w.cell? (ad.add j) = some u) (h1 : ∀ u ∈ news, u.oneCell' = true)
    (h63 : n + m ≤ maxLen) (hbytes : (n + m) * bytes ≤ 140737488355328) (hbase : base ≤ w.heap.size)
    (h : ∀ v' w', w'.ownsRow base e size v' (n + m) (xs ++ news) → w.grownBy w' v.ownBlock → (v' = .slice none 0 0 ↔ v = .slice none 0 0 ∧ m = 0) → wpList P ops Q rest (a.put o.dst v') w') : wpList P ops Q (o :: rest) a w :=
  BigFrame.wpList_want hgd fun _ hK => wp_append_own w s x t ho base e i z size bytes ht hi hz hsize hby hzs hsz v n xs hs hown ad m c news hx hl hnews h1 h63 hbytes hbase fun v' w' h2 h3 h4 => hK _ _ (h v' w' h2 h3 h4)
theorem Box.store {w : World} {B : Nat} {z : Nat → Int} (h : Box w B z) (y : Nat → Int) : Box ((((((((((w.setCell ⟨B, 0, none⟩ (.int .i64 (y 0))).setCell ⟨B, 1, none⟩ (.int .i64 (y 1))).setCell ⟨B, 2, none⟩ (.int .i64 (y 2))).setCell ⟨B, 3, none⟩ (.int .i64 (y 3))).setCell ⟨B, 4, none⟩ (.int .i64 (y 4))).setCell ⟨B, 5, none⟩ (.int .i64 (y 5))).setCell ⟨B, 6, none⟩ (.int .i64 (y 6))).setCell ⟨B, 7, none⟩ (.int .i64 (y 7))).setCell ⟨B, 8, none⟩ (.int .i64 (y 8))).setCell ⟨B, 9, none⟩ (.int .i64 (y 9))) B y :=
  ((((((((((h.set (m := 0) (by omega) (y 0)).set (m := 1) (by omega) (y 1)).set (m := 2) (by omega) (y 2)).set (m := 3) (by omega) (y 3)).set (m := 4) (by omega) (y 4)).set (m := 5) (by omega) (y 5)).set (m := 6) (by omega) (y 6)).set (m := 7) (by omega) (y 7)).set (m := 8) (by omega) (y 8)).set (m := 9) (by omega) (y 9)).congr (lt10 rfl rfl rfl rfl rfl rfl rfl rfl rfl rfl)
theorem zeros_later {W w5 : World} (hb : Below (W.alloc (.cells #[.int .i64 0, .int .i64 0, .int .i64 0, .int .i64 0, .int .i64 0, .int .i64 0, .int .i64 0, .int .i64 0, .int .i64 0, .int .i64 0] 38)).drew.heap.size (W.alloc (.cells #[.int .i64 0, .int .i64 0, .int .i64 0, .int .i64 0, .int .i64 0, .int .i64 0, .int .i64 0, .int .i64 0, .int .i64 0, .int .i64 0] 38)).drew w5) : Box w5 W.heap.size (fun _ => 0) ∧ ∀ o, w5.frozen? ⟨W.heap.size, o, none⟩ = false :=
  ⟨lt10 (cell_later hb (by go_simp)) (cell_later hb (by go_simp)) (cell_later hb (by go_simp)) (cell_later hb (by go_simp)) (cell_later hb (by go_simp)) (cell_later hb (by go_simp)) (cell_later hb (by go_simp)) (cell_later hb (by go_simp)) (cell_later hb (by go_simp)) (cell_later hb (by go_simp)), fun o => by rw [hb.frozen (p := ⟨W.heap.size, o, none⟩) (by simp)]; go_simp⟩

set_option maxHeartbeats 1000000 in
theorem parts_good (a : Option Addr) (cap : Nat) (r : List (List Op5)) (s : Nat → Int) (n : Int) (w : World) (hr : RoundAt w (.slice a r.length cap) r) (hcap : r.length ≤ cap) (hf : Fits r) (h0 : roundF r = 0) (hL : Lim w) :
    Calls Tryd.prog 6 #[stV s, .slice a r.length cap, .int .i64 n] w fun e w' => e = .returned (.bool true) ∧ Below w.heap.size w w' := by
  have h8 := (roundF_zero.1 h0).1
  obtain ⟨k, hk, ek⟩ := part_lt n r.length h8
  have hall1 := fun w' (hr' : RoundAt w' (.slice a r.length cap) r) (hL' : Lim w') => all_good (.slice a r.length cap) r s w' hr' hf h0 hL'
  have HF : Hid (Fits r) := hf
  have H0 : Hid (roundF r = 0) := h0
  show Calls Tryd.prog 6 #[.agg #[.int .i64 (s 0), .int .i64 (s 1), .int .i64 (s 2), .int .i64 (s 3), .int .i64 (s 4), .int .i64 (s 5), .int .i64 (s 6), .int .i64 (s 7), .int .i64 (s 8), .int .i64 (s 9)], _, _] w _
  have hB0 : Below w.heap.size w (w.alloc (.cells #[.int .i64 (s 0), .int .i64 (s 1), .int .i64 (s 2), .int .i64 (s 3), .int .i64 (s 4), .int .i64 (s 5), .int .i64 (s 6), .int .i64 (s 7), .int .i64 (s 8), .int .i64 (s 9)] 38)) := (Below.refl _ _).alloc (Nat.le_refl _) _
  have hX0 := box_new w s
  clear h0
  go_enter Tryd.func6, Tryd.ntmps6
  go_wp2_with fail
  refine (begun_any _ (hL.later hB0)).mono ?_
  rintro e w1 ⟨rfl, hb1⟩
  have hB1 : Below w.heap.size w w1 := hB0.trans (hb1.mono (by simp))
  have hX1 := hX0.later hb1
  obtain ⟨k0, k1, k2, k3, k4, k5, k6, k7, k8, k9⟩ := hX1.ten
  clear hB0 hb1 hX0
  go_wp2_with fail
  refine (great_any _ r _ (hr.later hB1) hf).mono ?_
  rintro e w2 ⟨⟨g, rfl⟩, rfl⟩
  clear hf
  cases g
  · go_wp2_with fail
    rw [ek]
    clear ek
    refine (hall1 _ (hr.later hB1) (hL.later hB1)).mono ?_
    rintro e w3 ⟨G, he, hown, hb3⟩
    have hall2 := fun w' hr' (hL' : Lim w') => all_good (.slice a k cap) (r.take k) s w' hr' (HF.out.part (fun d hd => List.mem_of_mem_take hd) (by rw [List.length_take]; omega)) (roundF_take H0.out k) hL'
    rw [List.length_take, Nat.min_eq_left hk] at hall2
    obtain ⟨x, hx⟩ : ∃ x, x = allSt s r := ⟨_, rfl⟩
    obtain ⟨y, hy⟩ : ∃ y, y = allSt s (r.take k) := ⟨_, rfl⟩
    rw [← hx] at he
    rw [← hy] at hall2
    have HY : Hid (y = allSt s (r.take k)) := hy
    have HX : Hid (x = allSt s r) := hx
    clear hx hy hall1
    simp only [stV] at he
    subst he
    have hX3 := hX1.later hb3
    have hB3 : Below w.heap.size w w3 := hB1.trans (hb3.mono hB1.size)
    have hs3 := hB3.size
    have hlt3 : w.heap.size < w3.heap.size := hX3.lt
    clear hX1 hB1 k0 k1 k2 k3 k4 k5 k6 k7 k8 k9
    go_wp2_with fail
    obtain ⟨W4, e4⟩ : ∃ W4, W4 = w3.alloc (.cells #[.int .i64 (x 0), .int .i64 (x 1), .int .i64 (x 2), .int .i64 (x 3), .int .i64 (x 4), .int .i64 (x 5), .int .i64 (x 6), .int .i64 (x 7), .int .i64 (x 8), .int .i64 (x 9)] 38) := ⟨_, rfl⟩
    rw [← e4]
    have hb4 : Below w3.heap.size w3 W4 := by rw [e4]; exact (Below.refl _ _).alloc (Nat.le_refl _) _
    have hB4 : Below w.heap.size w W4 := hB3.trans (hb4.mono hs3)
    have hS4 := hX3.later hb4
    have hX4 : Box W4 w3.heap.size x := lt10 (by rw [e4]; go_simp) (by rw [e4]; go_simp) (by rw [e4]; go_simp) (by rw [e4]; go_simp) (by rw [e4]; go_simp) (by rw [e4]; go_simp) (by rw [e4]; go_simp) (by rw [e4]; go_simp) (by rw [e4]; go_simp) (by rw [e4]; go_simp)
    have hO4 := owns_later hb4 hown
    have hGlt : G < W4.heap.size := (hO4.lt G rfl).2
    have hs4 := hb4.size
    obtain ⟨k0, k1, k2, k3, k4, k5, k6, k7, k8, k9⟩ := hS4.ten
    clear e4 hb4 hX3 hb3 hown hB3
    have hall2' := fun w' (hb' : Below w.heap.size w w') => hall2 w' ((hr.take hk).later hb') (hL.later hb')
    clear hall2
    have hlt4 : w.heap.size < W4.heap.size := by omega
    have hk0 : (0 : Int) ≤ (k : Int) := by omega
    have hk1 : (k : Int) ≤ (r.length : Int) := by omega
    have hk2 : (k : Int) ≤ (cap : Int) := by omega
    go_cut [11, 12, 13] from 38 (fun p av dv wc => ∃ Y G2 : Nat, p = .pointer (some ⟨Y, 0, none⟩) ∧ av = .slice (some ⟨G2, 0, none⟩) k k ∧ dv = .int .i64 0 ∧ Box wc Y y ∧ wc.ownsRow W4.heap.size 43 5 (.slice (some ⟨G2, 0, none⟩) k k) k (resCells (allOut s (r.take k))) ∧ Below W4.heap.size W4 wc)
    case first =>
      go_region_with (go_at_call 20; refine (hall2' _ (by first | exact hB4.drew | exact (hB4.alloc hB4.size _).drew | exact hB4.drew.alloc hB4.size _)).mono ?_; rintro e w5 ⟨G2, he, hown2, hb5⟩; simp only [stV] at he; subst he; (first | (have hzz : Box w5 W4.heap.size (fun _ => 0) ∧ ∀ o, w5.frozen? ⟨W4.heap.size, o, none⟩ = false := (by first | exact zeros_later hb5 | fail); obtain ⟨hz, hfz⟩ := hzz; obtain ⟨z0, z1, z2, z3, z4, z5, z6, z7, z8, z9⟩ := hz.ten) | skip))
      all_goals (go_wp2_with fail; go_meet)
      · exact ⟨w5.heap.size, G2, rfl, rfl, rfl, box_new w5 y, (owns_base hown2 (Nat.le_refl _)).alloc _, ((Below.refl _ _).drew.trans hb5).alloc hb5.size _⟩
      · exact ⟨W4.heap.size, G2, rfl, rfl, rfl, hz.store y, owns_base (owns_store hown2 (b := W4.heap.size) (by simp) _ _ _ _ _ _ _ _ _ _) (by simp), below_store ((((Below.refl _ _).alloc (Nat.le_refl _) _).drew.trans (hb5.mono (by simp)))) (b := W4.heap.size) (Nat.le_refl _) _ _ _ _ _ _ _ _ _ _⟩
      · exact ⟨W4.heap.size, G2, rfl, rfl, rfl, hz.store y, owns_base (owns_store hown2 (b := W4.heap.size) (by simp) _ _ _ _ _ _ _ _ _ _) (by simp), below_store ((((Below.refl _ _).alloc (Nat.le_refl _) _).drew.trans (hb5.mono (by simp)))) (b := W4.heap.size) (Nat.le_refl _) _ _ _ _ _ _ _ _ _ _⟩
    case rest =>
      obtain ⟨Y, G2, rfl, rfl, rfl, hY, hO2, hbc⟩ := hcut
      obtain ⟨V, hV⟩ : ∃ V, V = wc := ⟨_, rfl⟩
      subst hV
      have hall3 := fun A c w' hr' (hL' : Lim w') => all_good (.slice A (r.length - k) c) (r.drop k) y w' hr' (HF.out.part (fun d hd => List.mem_of_mem_drop hd) (by rw [List.length_drop]; omega)) (roundF_drop H0.out k) hL'
      rw [List.length_drop] at hall3
      have hxy : allSt y (r.drop k) = x := by rw [HX.out, HY.out, ← allSt_append, List.take_append_drop]
      have hout : Hid (resCells (allOut s (r.take k)) ++ resCells (allOut y (r.drop k)) = resCells (allOut s r)) := by
        show _ = _
        rw [HY.out, ← resCells_append, ← allOut_append, List.take_append_drop]
      rw [hxy] at hall3
      clear hxy HX HY
      have hBc : Below w.heap.size w V := hB4.trans (hbc.mono hB4.size)
      have hXc := hX4.later hbc
      have hOc := owns_later hbc hO4
      obtain ⟨A2, hA2⟩ : ∃ A2, (if cap = k then a else Option.map (fun x => x.add k) a) = A2 := ⟨_, rfl⟩
      have HA2 : k < r.length → ∀ b off, a = some ⟨b, off, none⟩ → A2 = some ⟨b, off + k, none⟩ := fun h b off e => by
        rw [← hA2, if_neg (by omega), e, Option.map_some, Addr.add_mid]
      have hall3' := fun w' (hb' : Below w.heap.size w w') => hall3 A2 (cap - k) w' ((hr.drop hk HA2).later hb') (hL.later hb')
      have hltY : Y < V.heap.size := hY.lt
      clear hX4 hS4 hO4 k0 k1 k2 k3 k4 k5 k6 k7 k8 k9 hall2' hall3 HA2
      obtain ⟨k0, k1, k2, k3, k4, k5, k6, k7, k8, k9⟩ := hY.ten
      go_wp2_with fail
      go_cut [14, 15, 16] from 47 (fun p bv ev wd => ∃ Z G3 : Nat, p = .pointer (some ⟨Z, 0, none⟩) ∧ bv = .slice (some ⟨G3, 0, none⟩) (r.length - k) (r.length - k) ∧ ev = .int .i64 0 ∧ Box wd Z x ∧ wd.ownsRow V.heap.size 43 5 (.slice (some ⟨G3, 0, none⟩) (r.length - k) (r.length - k)) (r.length - k) (resCells (allOut y (r.drop k))) ∧ Below V.heap.size V wd)
      case first =>
        go_region_with (go_at_call 20; refine (hall3' _ (by first | exact hBc.drew | exact (hBc.alloc hBc.size _).drew | exact hBc.drew.alloc hBc.size _)).mono ?_; rintro e w6 ⟨G3, he, hown3, hb6⟩; simp only [stV] at he; subst he; (first | (have hzz : Box w6 V.heap.size (fun _ => 0) ∧ ∀ o, w6.frozen? ⟨V.heap.size, o, none⟩ = false := (by first | exact zeros_later hb6 | fail); obtain ⟨hz, hfz⟩ := hzz; obtain ⟨z0, z1, z2, z3, z4, z5, z6, z7, z8, z9⟩ := hz.ten) | skip))
        all_goals (go_wp2_with fail; go_meet)
        · exact ⟨w6.heap.size, G3, rfl, rfl, rfl, box_new w6 x, (owns_base hown3 (Nat.le_refl _)).alloc _, ((Below.refl _ _).drew.trans hb6).alloc hb6.size _⟩
        · exact ⟨V.heap.size, G3, rfl, rfl, rfl, hz.store x, owns_base (owns_store hown3 (b := V.heap.size) (by simp) _ _ _ _ _ _ _ _ _ _) (by simp), below_store ((((Below.refl _ _).alloc (Nat.le_refl _) _).drew.trans (hb6.mono (by simp)))) (b := V.heap.size) (Nat.le_refl _) _ _ _ _ _ _ _ _ _ _⟩
        · exact ⟨V.heap.size, G3, rfl, rfl, rfl, hz.store x, owns_base (owns_store hown3 (b := V.heap.size) (by simp) _ _ _ _ _ _ _ _ _ _) (by simp), below_store ((((Below.refl _ _).alloc (Nat.le_refl _) _).drew.trans (hb6.mono (by simp)))) (b := V.heap.size) (Nat.le_refl _) _ _ _ _ _ _ _ _ _ _⟩
      case rest =>
        obtain ⟨Z, G3, rfl, rfl, rfl, hZ, hO3, hbd⟩ := hcut
        have hBd : Below w.heap.size w wc := hBc.trans (hbd.mono hBc.size)
        have hXd := hXc.later hbd
        have hOd := owns_later hbd hOc
        have hO2d := owns_later hbd (owns_later (Below.refl _ _) hO2)
        clear hXc hOc hY hall3' hA2 k0 k1 k2 k3 k4 k5 k6 k7 k8 k9
        obtain ⟨k0, k1, k2, k3, k4, k5, k6, k7, k8, k9⟩ := hXd.ten
        obtain ⟨m0, m1, m2, m3, m4, m5, m6, m7, m8, m9⟩ := hZ.ten
        have h38 := eq38 x
        obtain ⟨i43, hi, hz0, hz1, hz2⟩ := info_parts info43
        have hn1 : (resCells (allOut s (r.take k))).length = k * 5 := hO2d.1
        have hn2 : (resCells (allOut y (r.drop k))).length = (r.length - k) * 5 := hO3.1
        have hnews : ∀ j u, (resCells (allOut y (r.drop k)))[j]? = some u → wc.cell? ((⟨G3, 0, none⟩ : Addr).add j) = some u := hO3.cells (g := G3) rfl
        have HN : Hid (∀ j u, (resCells (allOut y (r.drop k)))[j]? = some u → wc.cell? ((⟨G3, 0, none⟩ : Addr).add j) = some u) := hnews
        have HO2 : Hid (wc.ownsRow W4.heap.size 43 5 (.slice (some ⟨G2, 0, none⟩) k k) k (resCells (allOut s (r.take k)))) := hO2d
        have HL : Hid ((resCells (allOut y (r.drop k))).length = (r.length - k) * 5) := hn2
        have hWc : W4.heap.size ≤ wc.heap.size := Nat.le_trans hbc.size hbd.size
        clear hn1 hn2 hnews hO2d
        go_wp2_with (at_builtin; refine append_want _ (by rfl) (.tmp 69) (.tmp 70) 48 rfl W4.heap.size 43 i43 (.agg #[.int .i64 0, .int .i64 0, .int .i64 0, .int .i64 0, .int .i64 0]) 5 40 Tryd.underlying48 hi hz0 hz1 hz2 rfl (by decide) _ k (resCells (allOut s (r.take k))) rfl HO2.out ⟨G3, 0, none⟩ (r.length - k) (r.length - k) (resCells (allOut y (r.drop k))) rfl HL.out HN.out (resCells_one _) (by unfold maxLen; omega) (by omega) hWc ?_; intro v7 w7 ho7 hg7 hn7)
        have hg7' : wc.grownBy w7 (some G2) := hg7
        have hG2 : W4.heap.size ≤ G2 := (HO2.out.lt G2 rfl).1
        have hO7 := hOd.kept hg7' (.inr (by simp only [Value.ownBlock, ne_eq, Option.some.injEq]; omega))
        have ho8 : w7.ownsRow W4.heap.size 43 5 v7 r.length (resCells (allOut s r)) := by
          rw [hout.out, show k + (r.length - k) = r.length by omega] at ho7
          exact ho7
        have hB7 : Below w.heap.size w w7 := hBd.grown hg7' hBd.size (fun q hq => by cases hq; omega)
        refine (same_any _ _ (allOut s r) _ (res_of_owns (by rw [allOut_length]; exact hO7)) (res_of_owns (by rw [allOut_length]; exact ho8)) (by rw [allOut_length]; omega)).mono ?_
        rintro e w8 ⟨rfl, hb8⟩
        have hB8 : Below w.heap.size w w8 := hB7.trans (hb8.mono hB7.size)
        clear hO7 ho7 ho8 hg7 hg7' hb8 hB7 HN HO2 HL
        go_wp2_with fail
        go_ret
        exact ⟨rfl, hB8⟩
  · go_wp2_with fail
    go_ret
    exact ⟨rfl, hB1⟩

set_option maxHeartbeats 400000 in
theorem great_many (v : Value) (r : List (List Op5)) (w : World) (hr : RoundAt w v r) (hf : Fits r) (hlen : 60 < r.length) :
    Calls Tryd.prog 10 #[v] w fun e w' => e = .returned (.bool true) ∧ w' = w := by
  have hm := hf.1
  obtain ⟨a, cap, rfl, hr⟩ := hr
  go_enter Tryd.func10, Tryd.ntmps10
  go_wp2_with fail
  go_loopg [3, 4] r.length (fun g n i wr => ∃ j : Nat, ∃ x : Int, j ≤ r.length ∧ j ≤ 100 ∧ g = r.length - j ∧ i = .int .i64 j ∧ n = .int .i64 x ∧ wr = w)
  case atStart => exact ⟨0, 0, by omega, by omega, by omega, rfl, rfl, rfl⟩
  case round =>
    obtain ⟨j, x, hj, h100, hg, rfl, rfl, rfl⟩ := hrel
    by_cases hlt : j < r.length
    · by_cases hlt' : j < 100
      · obtain ⟨b, off, rfl, dv, c0, hD⟩ := hr j hlt
        obtain ⟨a', cap', rfl, -⟩ := hD
        have hm' := hf.2 j hlt
        clear hr
        go_wp2_with fail
        go_roundg (r.length - (j + 1))
        case measure => omega
        case rel => exact ⟨j + 1, _, by omega, by omega, rfl, by go_num, rfl, rfl⟩
      · clear hr
        go_wp2_with fail
        go_ret
        exact ⟨rfl, rfl⟩
    · clear hr
      go_wp2_with fail
      go_ret
      exact ⟨rfl, rfl⟩

set_option maxHeartbeats 400000 in
theorem parts_bad (a : Option Addr) (cap : Nat) (r : List (List Op5)) (s : Nat → Int) (n : Int) (w : World) (hr : RoundAt w (.slice a r.length cap) r) (hf : Fits r) (h0 : ¬ roundF r = 0) (hL : Lim w) :
    Calls Tryd.prog 6 #[stV s, .slice a r.length cap, .int .i64 n] w fun e w' => e = .returned (.bool true) ∧ Below w.heap.size w w' := by
  have hm := hf.1
  have hall1 := fun w' (hr' : RoundAt w' (.slice a r.length cap) r) (hL' : Lim w') => all_bad (.slice a r.length cap) r s w' hr' hf h0 hL'
  obtain ⟨c, hc⟩ : ∃ c, c = roundF r := ⟨_, rfl⟩
  rw [← hc] at h0 hall1
  have t0 : (c != 0) = true := by simp [h0]
  clear hc h0
  show Calls Tryd.prog 6 #[.agg #[.int .i64 (s 0), .int .i64 (s 1), .int .i64 (s 2), .int .i64 (s 3), .int .i64 (s 4), .int .i64 (s 5), .int .i64 (s 6), .int .i64 (s 7), .int .i64 (s 8), .int .i64 (s 9)], _, _] w _
  have hB0 : Below w.heap.size w (w.alloc (.cells #[.int .i64 (s 0), .int .i64 (s 1), .int .i64 (s 2), .int .i64 (s 3), .int .i64 (s 4), .int .i64 (s 5), .int .i64 (s 6), .int .i64 (s 7), .int .i64 (s 8), .int .i64 (s 9)] 38)) := (Below.refl _ _).alloc (Nat.le_refl _) _
  have hX0 := box_new w s
  go_enter Tryd.func6, Tryd.ntmps6
  go_wp2_with fail
  refine (begun_any _ (hL.later hB0)).mono ?_
  rintro e w1 ⟨rfl, hb1⟩
  have hB1 : Below w.heap.size w w1 := hB0.trans (hb1.mono (by simp))
  have hX1 := hX0.later hb1
  obtain ⟨k0, k1, k2, k3, k4, k5, k6, k7, k8, k9⟩ := hX1.ten
  clear hB0 hb1 hX0
  go_wp2_with fail
  by_cases h60 : 60 < r.length
  · refine (great_many _ r _ (hr.later hB1) hf h60).mono ?_
    rintro e w2 ⟨rfl, rfl⟩
    go_wp2_with fail
    go_ret
    exact ⟨rfl, hB1⟩
  · refine (great_any _ r _ (hr.later hB1) hf).mono ?_
    rintro e w2 ⟨⟨g, rfl⟩, rfl⟩
    cases g
    · go_wp2_with fail
      refine (hall1 _ (hr.later hB1) (hL.later hB1)).mono ?_
      rintro e w3 ⟨he, hb3⟩
      simp only [stV] at he
      subst he
      have hB3 : Below w.heap.size w w3 := hB1.trans (hb3.mono hB1.size)
      clear hb3 hall1
      go_wp2_with fail
      go_ret
      exact ⟨rfl, hB3.alloc hB3.size _⟩
    · go_wp2_with fail
      go_ret
      exact ⟨rfl, hB1⟩

theorem parts_any (a : Option Addr) (cap : Nat) (r : List (List Op5)) (s : Nat → Int) (n : Int) (w : World) (hr : RoundAt w (.slice a r.length cap) r) (hcap : r.length ≤ cap) (hf : Fits r) (hL : Lim w) :
    Calls Tryd.prog 6 #[stV s, .slice a r.length cap, .int .i64 n] w fun e w' => e = .returned (.bool true) ∧ Below w.heap.size w w' := by
  by_cases h0 : roundF r = 0
  · exact parts_good a cap r s n w hr hcap hf h0 hL
  · exact parts_bad a cap r s n w hr hf h0 hL
end Go.Proofs.YtlhikmgjcgfohaaDoor
