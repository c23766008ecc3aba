/-
  The walks of a desk's last and round. The walk of a desk's round.
-/
import Derived.Test.YtehkjbpgibdgpadGreatDoorJqDc
import Derived.Test.YtehkjbpgibdgpadGreatDoorJqLn
namespace Go.Proofs.YtehkjbpgibdgpadGreatDoor
open Go.RowKit Go.Shelf

/-- A call, as one step of a region that draws. -/
theorem step_call {ops : Array Oper} {o : Oper} {a : Act} {w : World} {K : Act → World → Prop} {Q : Exit → Act → World → Prop} {E : Prop} {R : Value → World → Prop} (hgd : o.guard = none) (f : FuncId) (xs : Array Operand) (ts : Array TypeId)
    (ho : o.op = .call { callee := .value (.func f), args := xs, argTypes := ts }) (hen : ∀ (args : Array Value) (w : World), (callFunc f args).run Tryz.prog w = .ok (.enter f args) w) {vs : Array Value} (hx : xs.map a.eval = vs)
    (hc : Calls Tryz.prog f vs w fun e w' => ∃ u, e = .returned u ∧ R u w') (h : ∀ u w', R u w' → K (a.put o.dst u) w') : if Region.wanted o (yielded ops a.tmps) = true then Oper.wp Tryz.prog o a w K Q else E := by
  have hw : Region.wanted o (yielded ops a.tmps) = true := by simp [Region.wanted, hgd]
  rw [if_pos hw]
  obtain ⟨dst, op, ty, pos, after, guard⟩ := o
  dsimp only at ho hgd
  subst ho
  have e : (#[] ++ xs.map a.eval ++ #[] : Array Value) = vs := by simp [hx]
  unfold Oper.wp
  rw [execOp_call_go, hen, Oper.upon_enter, e]
  refine hc.mono ?_
  rintro e w' ⟨u, rfl, hR⟩
  exact h u w' hR
theorem infoI6 : (Tryz.prog.info? 2).map (fun i => (i.zero, i.size, i.bytes)) = some (some (.int .i64 0), 1, 8) := by kernel_rfl
theorem owns_nums {w : World} {base : Nat} {e : TypeId} {v : Value} {ns : List Int} (h : w.ownsRow base e 1 v ns.length (ns.map (Value.int .i64))) : NumsAt w v ns := by
  obtain ⟨a, cap, rfl, -⟩ := owns_slice h
  refine ⟨a, cap, rfl, fun i hi => ?_⟩
  obtain ⟨g, cap', e1, hcell⟩ := owns_cells h (by omega)
  injection e1 with e1 e2 e3
  subst e1
  refine ⟨g, 0, rfl, ?_⟩
  have := hcell i (.int .i64 ns[i]) (by simp [hi])
  simpa using this

theorem cameT_len {l : List (List (List Op5))} (h : L64 l) (m : Nat) : ∀ n, (cameT l m n).length ≤ 200 * n
  | 0 => by simp [cameT]
  | n + 1 => by
    have h1 := cameT_len h m n
    have h2 := last_64 h m n
    have h3 := tellB_len (w := wCame) (five_64 h2.1 h2.2)
    have e1 : wCame.length = 4 := rfl
    have e2 : (lastC l m n :: four (lastG l m n)).length = 5 := rfl
    rw [e1, e2] at h3
    simp only [cameT, List.length_append]; omega

section
variable {P : Nat → Prop} {w0 w : World} {B : Nat} {t : List UInt8} {D : DSt}

set_option maxRecDepth 100000 in
set_option maxHeartbeats 2000000 in
theorem last_s (h : Since P w0 w B t D) (hE : EnvP P w0) (ht : t.length ≤ 900000000) :
    Calls Tryz.prog 59 #[.pointer (some ⟨B, 0, none⟩)] w fun e w' => e = .returned (.tuple #[]) ∧ Since P w0 w' B (t ++ lastT D.l D.m) D := by
  obtain ⟨i0, hi, hz0, hz1, hz2⟩ := info_parts infoI6
  obtain ⟨c, S, va, vb, vd, vs, hk⟩ := id h.desk
  have c2 := hk.c2
  have hla := stLast_any hk.st
  have hn8 := lastR_len hk.st.ok.good D.m
  have hl64 := fun i => last_64 hk.ok.l64 D.m i
  have hcl := cameT_len hk.ok.l64 D.m
  have eT : Hid (lastT D.l D.m = cameT D.l D.m (lastR D.l D.m).length ++ sayB [wEnd]) := rfl
  rw [eT.out]
  generalize (lastR D.l D.m).length = n at *
  have e5 : Hid (∀ j, cameT D.l D.m (j + 1) = cameT D.l D.m j ++ tellB wCame (lastC D.l D.m j :: four (lastG D.l D.m j))) := fun j => rfl
  have e0 : Hid (cameT D.l D.m 0 = []) := rfl
  generalize cameT D.l D.m = cm at *
  generalize lastC D.l D.m = co at *
  generalize lastG D.l D.m = re at *
  have HS : Hid (Since P w0 w B t D) := h
  have HE : Hid (EnvP P w0) := hE
  have hcome : ∀ (args : Array Value) (w : World), (callFunc 44 args).run Tryz.prog w = .ok (.enter 44 args) w := fun _ _ => rfl
  clear hk h hE eT
  go_enter Tryz.func59, Tryz.ntmps59
  go_wp2_with fail
  refine hla.mono ?_
  clear hla c2
  rintro e w1 ⟨⟨u, rfl, hU⟩, hb1⟩
  have HF : Hid (Since (fun b => (P b ∨ w0.heap.size ≤ b) ∧ b < w.heap.size) w1 w1 B t D) := HS.out.fresh hb1
  have HE1 : Hid (EnvP (fun b => (P b ∨ w0.heap.size ≤ b) ∧ b < w.heap.size) w1) := HS.out.envF HE.out hb1
  have HBk : Hid (∀ w' t' D', Since (fun b => (P b ∨ w0.heap.size ≤ b) ∧ b < w.heap.size) w1 w' B t' D' → Since P w0 w' B t' D') := fun w' t' D' k => HS.out.back hb1 k
  have HU : Hid (ResIn (fun b => w.heap.size ≤ b) w1 u n co re) := hU
  obtain ⟨ua, ucap, rfl, -⟩ := hU
  clear hb1 HS HE
  go_wp2_with fail
  go_loopg [10] n (fun g i wr => ∃ j : Nat, j ≤ n ∧ g = n - j ∧ i = .int .i64 j ∧ Hid (Since (fun b => (P b ∨ w0.heap.size ≤ b) ∧ b < w.heap.size) w1 wr B (t ++ cm j) D))
  case atStart => exact ⟨0, by omega, by omega, rfl, by show Since _ _ _ _ _ _; rw [e0.out, List.append_nil]; exact HF.out⟩
  case round =>
    obtain ⟨j, hj, hg, rfl, hD⟩ := hrel
    by_cases hlt : j < n
    · obtain ⟨ua', ucap', eu, -, hUr⟩ := HU.out.grew hD.out.grew fun b _ hb e => by have := e.2; omega
      obtain ⟨g', rfl, -, hRow⟩ := hUr (by omega)
      injection eu with eu1 eu2 eu3
      subst eu1
      obtain ⟨k0, k1, k2, k3, k4⟩ := hRow.at' j hlt
      have t5 : (j : Int) < (n : Int) := by omega
      obtain ⟨W, eW⟩ : ∃ W, W = wr.alloc (.cells #[.int .i64 (co j), .int .i64 (re j 0), .int .i64 (re j 1), .int .i64 (re j 2), .int .i64 (re j 3)] 102) := ⟨_, rfl⟩
      have hbW : Below wr.heap.size wr W := by rw [eW]; exact (Below.refl _ _).alloc (Nat.le_refl _) _
      have hszW : W.heap.size = wr.heap.size + 1 := by rw [eW]; simp
      have y0 : W.cell? ⟨wr.heap.size, 0, none⟩ = some (.int .i64 (co j)) := by rw [eW]; go_simp
      have y1 : W.cell? ⟨wr.heap.size, 1, none⟩ = some (.int .i64 (re j 0)) := by rw [eW]; go_simp
      have y2 : W.cell? ⟨wr.heap.size, 2, none⟩ = some (.int .i64 (re j 1)) := by rw [eW]; go_simp
      have y3 : W.cell? ⟨wr.heap.size, 3, none⟩ = some (.int .i64 (re j 2)) := by rw [eW]; go_simp
      have y4 : W.cell? ⟨wr.heap.size, 4, none⟩ = some (.int .i64 (re j 3)) := by rw [eW]; go_simp
      have HW : Hid (wr.alloc (.cells #[.int .i64 (co j), .int .i64 (re j 0), .int .i64 (re j 1), .int .i64 (re j 2), .int .i64 (re j 3)] 102) = W) := eW.symm
      clear eW hUr hRow eu2 eu3
      have HY : Hid (∀ i x, [Value.int .i64 (re j 0), .int .i64 (re j 1), .int .i64 (re j 2), .int .i64 (re j 3)][i]? = some x → (W.drew.alloc (.cells #[.int .i64 (co j)] 2)).cell? ((⟨wr.heap.size, 1, none⟩ : Addr).add i) = some x) := fun i x hx => by
        have hl : wr.heap.size < W.drew.heap.size := by show wr.heap.size < W.heap.size; omega
        rw [addr_add, World.cell?_alloc_past _ _ _ hl]
        match i, hx with
        | 0, hx => cases hx; exact y1
        | 1, hx => cases hx; exact y2
        | 2, hx => cases hx; exact y3
        | 3, hx => cases hx; exact y4
      have HO : Hid ((W.drew.alloc (.cells #[.int .i64 (co j)] 2)).ownsRow W.heap.size 2 1 (.slice (some ⟨W.heap.size, 0, none⟩) 1 1) 1 [.int .i64 (co j)]) := ⟨rfl, .inr ⟨W.heap.size, 1, _, rfl, Nat.le_refl _, heap_alloc_new W.drew _, Nat.le_refl _, by decide, rfl, rfl⟩⟩
      have HT : Hid (∀ (v5 : Value) (w5 : World), w5.ownsRow W.heap.size 2 1 v5 (1 + 4) ([.int .i64 (co j)] ++ [.int .i64 (re j 0), .int .i64 (re j 1), .int .i64 (re j 2), .int .i64 (re j 3)]) → (W.drew.alloc (.cells #[.int .i64 (co j)] 2)).grownBy w5 (Value.slice (some ⟨W.heap.size, 0, none⟩) 1 1).ownBlock → Calls Tryz.prog 44 #[.pointer (some ⟨B, 0, none⟩), .string ⟨#[99, 97, 109, 101]⟩, v5] w5 fun e w' => ∃ u, e = .returned u ∧ (u = .tuple #[] ∧ Since (fun b => (P b ∨ w0.heap.size ≤ b) ∧ b < w.heap.size) w1 w' B (t ++ cm (j + 1)) D)) := fun v5 w5 ho hg => by
        have hb5 : Below wr.heap.size wr w5 := (hbW.drew.alloc (by show wr.heap.size ≤ W.heap.size; omega) _).grown hg (by simp; omega) (fun k hk => by
          simp only [Value.ownBlock, Option.some.injEq] at hk; omega)
        refine (tell_s (ns := co j :: four (re j)) wCame (hD.out.later hb5) HE1.out (owns_nums ho) (five_64 (hl64 j).1 (hl64 j).2) (by simp [four]) (by decide) (by have := hcl j; simp only [List.length_append]; omega)).mono ?_
        rintro e w6 ⟨rfl, h6⟩
        refine ⟨_, rfl, rfl, ?_⟩
        rw [e5.out, ← List.append_assoc]; exact h6
      have HZ : Hid (W.heap.size = wr.heap.size + 1) := hszW
      clear hszW y1 y2 y3 y4 hbW hD
      go_wp2_with fail
      rw [HW.out]
      go_region_law (first | (refine step_append_at rfl (.tmp 17) (.tmp 19) 98 rfl W.heap.size 2 i0 (.int .i64 0) 1 8 Tryz.underlying98 hi hz0 hz1 hz2 rfl (by decide) (.slice (some ⟨W.heap.size, 0, none⟩) 1 1) 1 [.int .i64 (co j)] (by simp [Act.eval]) HO.out ⟨wr.heap.size, 1, none⟩ 4 4 [.int .i64 (re j 0), .int .i64 (re j 1), .int .i64 (re j 2), .int .i64 (re j 3)] (by simp [Act.eval]) rfl HY.out (by simp [Value.oneCell']) (by unfold maxLen; omega) (by omega) (by simp) ?_; intro v5 w5 ho5 hg5 hat5; have hT := HT.out _ _ ho5 hg5; obtain ⟨g5, cap5, rfl, -⟩ := owns_cells ho5 (by omega)) | (refine step_call rfl 44 _ _ rfl hcome (by simp [Act.eval]) hT ?_; rintro u6 w6 ⟨rfl, h6⟩))
      all_goals go_wp2_with fail
      all_goals go_roundg (n - (j + 1))
      all_goals first | omega | exact ⟨j + 1, by omega, rfl, by go_num, h6⟩
    · obtain rfl : j = n := by omega
      have hsy := say_l (ws := [wEnd]) (HBk.out _ _ _ hD.out) (by simp) (by decide) (by have := hcl j; simp only [List.length_append]; omega) _ rfl 1 rfl
      rw [List.append_assoc] at hsy
      clear hD HF HU HBk
      go_wp2_with fail
      refine hsy.mono ?_
      rintro e w3 ⟨rfl, h3⟩
      go_wp2_with fail
      go_end0
      exact ⟨rfl, h3⟩
end
end Go.Proofs.YtehkjbpgibdgpadGreatDoor
namespace Go.Proofs.YtehkjbpgibdgpadGreatDoor
open Go.RowKit Go.Shelf

theorem say_deed_len {d : List Op5} (h : (checkF d).1 = 0) (h64 : ∀ o ∈ d, Op64 o) : (Lib.join [wDeed, printB d] [32]).length ≤ 1030 := by
  have h1 := small_print h h64
  rw [join_len]
  have e1 : wDeed.length = 4 := rfl
  have e2 : Lib.lens [printB d] = (printB d).length := by simp [Lib.lens]
  rw [e1, e2]; simp only [List.length_cons, List.length_nil]; omega
theorem deedsT_len {r : List (List Op5)} (h : ∀ d ∈ r, (checkF d).1 = 0 ∧ ∀ o ∈ d, Op64 o) : (deedsT r).length ≤ 1031 * r.length := by
  induction r with
  | nil => simp [deedsT]
  | cons d r ih =>
    have h1 := say_deed_len (h d (by simp)).1 (h d (by simp)).2
    have h2 := ih fun x hx => h x (by simp [hx])
    simp only [deedsT, sayB, List.length_append, List.length_cons, List.length_nil]; omega

section
variable {P : Nat → Prop} {w0 w : World} {B : Nat} {t : List UInt8} {D : DSt}

set_option maxRecDepth 100000 in
set_option maxHeartbeats 2000000 in
theorem round_no (h : Since P w0 w B t D) (hE : EnvP P w0) (n : Int) (hn : ¬ (0 ≤ n ∧ n < (D.l.length : Int))) (ht : t.length ≤ 900000000) :
    Calls Tryz.prog 63 #[.pointer (some ⟨B, 0, none⟩), .int .i64 n] w fun e w' => e = .returned (.tuple #[]) ∧ Since P w0 w' B (t ++ noneT) D := by
  obtain ⟨c, S, va, vb, vd, vs, hk⟩ := id h.desk
  have c2 := hk.c2
  obtain ⟨C, vl, hst⟩ := hk.st
  have s0 := hst.c0
  have hrd := logRound_any hst.log n ((h.env hE).env.lim)
  have HNo : Hid (∀ w2, Below w.heap.size w w2 → Calls Tryz.prog 44 #[.pointer (some ⟨B, 0, none⟩), .string ⟨#[110, 111]⟩, .slice (some ⟨w2.heap.size, 0, none⟩) 1 1] (w2.alloc (.cells #[.int .i64 7] 2)) fun e w' => e = .returned (.tuple #[]) ∧ Since P w0 w' B (t ++ noneT) D) := fun w2 hb => tell_l wNo (h.later hb) hE (one_64 i64_seven) (by simp) (by decide) (by omega) _ rfl 1 rfl
  clear h hE hk hst
  go_enter Tryz.func63, Tryz.ntmps63
  go_wp2_with fail
  refine hrd.mono ?_
  rintro e w1 ⟨hO, hb1⟩
  obtain rfl : e = .returned (.tuple #[.slice none 0 0, .bool false]) := by
    rcases hO with ⟨h1, h2, -⟩ | ⟨-, he⟩
    · exact absurd ⟨h2, by omega⟩ hn
    · exact he
  have hT := HNo.out _ hb1
  clear hO hrd hn HNo
  go_wp2_with fail
  refine hT.mono ?_
  rintro e w3 ⟨rfl, h3⟩
  go_wp2_with fail
  refine bodyPost_ret (results_none rfl _ _ _) rfl ?_
  exact ⟨rfl, h3⟩

set_option maxRecDepth 100000 in
set_option maxHeartbeats 2000000 in
theorem round_yes (h : Since P w0 w B t D) (hE : EnvP P w0) (m : Nat) (hm : m < D.l.length) (ht : t.length ≤ 900000000) :
    Calls Tryz.prog 63 #[.pointer (some ⟨B, 0, none⟩), .int .i64 (m : Int)] w fun e w' => e = .returned (.tuple #[]) ∧ Since P w0 w' B (t ++ (deedsT D.l[m] ++ sayB [wEnd])) D := by
  obtain ⟨c, S, va, vb, vd, vs, hk⟩ := id h.desk
  have c2 := hk.c2
  have hgood := hk.st.ok.good _ (List.getElem_mem hm)
  have hr64 := hk.ok.l64 _ (List.getElem_mem hm)
  obtain ⟨h8, hck⟩ := roundF_zero.1 hgood.1
  obtain ⟨C, vl, hst⟩ := hk.st
  have s0 := hst.c0
  have hrd := logRound_in hst.log hm ((h.env hE).env.lim)
  have Hd : Hid (∀ d ∈ D.l[m], (checkF d).1 = 0 ∧ ∀ o ∈ d, Op64 o) := fun d hd => ⟨hck d hd, d64_of (hck d hd) (hr64 d hd)⟩
  generalize D.l[m] = r at *
  obtain ⟨n, en⟩ : ∃ n, n = r.length := ⟨_, rfl⟩
  rw [← en] at h8
  have En : Hid (n = r.length) := en
  have HL : Hid (∀ j, (deedsT (r.take j)).length ≤ 10000) := fun j => by
    have h1 := deedsT_len (r := r.take j) fun d hd => Hd.out d (List.mem_of_mem_take hd)
    have h2 : (r.take j).length ≤ 8 := by rw [List.length_take]; omega
    omega
  have HS : Hid (Since P w0 w B t D) := h
  have HE : Hid (EnvP P w0) := hE
  clear h hE hk hst hgood hr64 hck en hm
  go_enter Tryz.func63, Tryz.ntmps63
  go_wp2_with fail
  refine hrd.mono ?_
  clear hrd c2 s0
  rintro e w1 ⟨⟨u, rfl, hU⟩, hb1⟩
  have HF : Hid (Since (fun b => (P b ∨ w0.heap.size ≤ b) ∧ b < w.heap.size) w1 w1 B t D) := HS.out.fresh hb1
  have HE1 : Hid (EnvP (fun b => (P b ∨ w0.heap.size ≤ b) ∧ b < w.heap.size) w1) := HS.out.envF HE.out hb1
  have HBk : Hid (∀ w' t' D', Since (fun b => (P b ∨ w0.heap.size ≤ b) ∧ b < w.heap.size) w1 w' B t' D' → Since P w0 w' B t' D') := fun w' t' D' k => HS.out.back hb1 k
  have HU : Hid (RoundIn (fun b => w.heap.size ≤ b) w1 u r) := hU
  obtain ⟨ua, ucap, rfl, -⟩ := hU
  rw [← En.out] at HU ⊢
  clear hb1 HS HE
  go_wp2_with fail
  go_loopg [29] n (fun g i wr => ∃ j : Nat, j ≤ n ∧ g = n - j ∧ i = .int .i64 j ∧ Hid (Since (fun b => (P b ∨ w0.heap.size ≤ b) ∧ b < w.heap.size) w1 wr B (t ++ deedsT (r.take j)) D))
  case atStart => exact ⟨0, by omega, by omega, rfl, by show Since _ _ _ _ _ _; rw [List.take_zero, show deedsT [] = [] from rfl, List.append_nil]; exact HF.out⟩
  case round =>
    obtain ⟨j, hj, hg, rfl, hD⟩ := hrel
    by_cases hlt : j < n
    · have hjr : j < r.length := by have := En.out; omega
      obtain ⟨ua', ucap', eu, hUr⟩ := HU.out.grew hD.out.grew fun b hb e => by have := e.2; omega
      obtain ⟨b, off, -, rfl, dv, hdv, hdi⟩ := hUr j hjr
      injection eu with eu1 eu2 eu3
      subst eu1
      have hda := hdi.at
      obtain ⟨h0, h64⟩ := Hd.out _ (List.getElem_mem hjr)
      have hpr := print_any dv r[j] wr hda (by have := check_few_ops h0; omega) h64 (hD.out.env HE1.out).env
      rw [print_good h0] at hpr
      have hjl := say_deed_len h0 h64
      have hT : Hid (deedsT (r.take (j + 1)) = deedsT (r.take j) ++ sayB [wDeed, printB r[j]]) := deedsT_take hjr
      obtain ⟨da, dcap, rfl, -⟩ := hda
      simp only [outT] at hpr
      have HL1 := HL.out j
      have HSay : Hid (∀ w2, Below wr.heap.size wr w2 → Calls Tryz.prog 29 #[.pointer (some ⟨B, 0, none⟩), .slice (some ⟨w2.heap.size, 0, none⟩) 2 2] (w2.alloc (.cells #[.string ⟨#[100, 101, 101, 100]⟩, .string (strB (printB r[j]))] 9)) fun e w' => e = .returned (.tuple #[]) ∧ Since (fun b => (P b ∨ w0.heap.size ≤ b) ∧ b < w.heap.size) w1 w' B (t ++ deedsT (r.take (j + 1))) D) := fun w2 hb => by
        have := say_l (ws := [wDeed, printB r[j]]) (hD.out.later hb) (by simp) (by omega) (by simp only [List.length_append]; omega) _ rfl 2 rfl
        rw [hT.out, ← List.append_assoc]
        exact this
      generalize printB r[j] = y at *
      generalize r[j].length = dn at *
      have t5 : (j : Int) < (n : Int) := by omega
      clear hD hUr hdi h0 h64 hjl eu2 eu3 hT HL1 hjr
      go_wp2_with fail
      refine hpr.mono ?_
      clear hpr hdv
      rintro e w2 ⟨rfl, hb2⟩
      have hS := HSay.out (w2.alloc (.cells #[.int .i64 0, .int .i64 0] 42)) (hb2.alloc hb2.size _)
      simp only [World.size_alloc] at hS
      clear HSay hb2
      go_wp2_with fail
      refine hS.mono ?_
      clear hS
      rintro e w3 ⟨rfl, h3⟩
      go_wp2_with fail
      go_roundg (n - (j + 1))
      case measure => omega
      case rel => exact ⟨j + 1, by omega, rfl, by go_num, h3⟩
    · obtain rfl : j = n := by omega
      have e4 : Hid (r.take j = r) := List.take_of_length_le (by have := En.out; omega)
      have HL1 := HL.out j
      have hsy := say_l (ws := [wEnd]) (HBk.out _ _ _ hD.out) (by simp) (by decide) (by simp only [List.length_append]; omega) _ rfl 1 rfl
      rw [e4.out, List.append_assoc] at hsy
      clear hD HF HU HBk e4 HL1
      go_wp2_with fail
      refine hsy.mono ?_
      rintro e w3 ⟨rfl, h3⟩
      go_wp2_with fail
      go_end0
      exact ⟨rfl, h3⟩
theorem round_s (h : Since P w0 w B t D) (hE : EnvP P w0) (n : Int) (ht : t.length ≤ 900000000) :
    Calls Tryz.prog 63 #[.pointer (some ⟨B, 0, none⟩), .int .i64 n] w fun e w' => e = .returned (.tuple #[]) ∧ Since P w0 w' B (t ++ roundT D.l n) D := by
  by_cases hn : 0 ≤ n ∧ n < (D.l.length : Int)
  · obtain ⟨m, rfl⟩ : ∃ m : Nat, n = m := ⟨n.toNat, by omega⟩
    rw [roundT, if_pos hn, Int.toNat_natCast, getD_at (by omega)]
    exact round_yes h hE m (by omega) ht
  · rw [roundT, if_neg hn]
    exact round_no h hE n hn ht
end
end Go.Proofs.YtehkjbpgibdgpadGreatDoor
