/-
  The walks of a desk's step, put, state and deed. The walk of a desk's deed.
-/
import Derived.Test.YtehkjbpgibdgpadGreatDoorJqDb
import Derived.Test.YtehkjbpgibdgpadGreatDoorJqSr
namespace Go.Proofs.YtehkjbpgibdgpadGreatDoor
open Go.RowKit Go.Shelf

/-- What has become of a desk since a world. -/
structure Since (P : Nat → Prop) (w0 w : World) (B : Nat) (t : List UInt8) (D : DSt) : Prop where
  desk : DeskAt (fun b => P b ∨ w0.heap.size ≤ b) w B t D
  grew : Grew P w0 w
section
variable {P Q : Nat → Prop} {w0 w w' : World} {B : Nat} {t t' : List UInt8} {D D' : DSt}
theorem since_start (h : DeskAt P w B t D) : Since P w w B t D := ⟨h.mono fun _b _ hb => .inl hb, Grew.refl _ _⟩
theorem Since.later (h : Since P w0 w B t D) (hb : Below w.heap.size w w') : Since P w0 w' B t D := ⟨h.desk.later hb, h.grew.trans (Grew.of_below hb)⟩
theorem Since.next (h : Since P w0 w B t D) (hd : DeskAt (fun b => (P b ∨ w0.heap.size ≤ b) ∨ w.heap.size ≤ b) w' B t' D') (hg : Grew (fun b => P b ∨ w0.heap.size ≤ b) w w') : Since P w0 w' B t' D' :=
  ⟨hd.mono fun _b _ hb => hb.elim id fun hb => .inr (Nat.le_trans h.grew.size hb), grew_then h.grew hg⟩
theorem Since.env (h : Since P w0 w B t D) (hE : EnvP P w0) : EnvP (fun b => P b ∨ w0.heap.size ≤ b) w := hE.grew h.grew
theorem Since.rebase {w1 : World} (hg : Grew P w0 w1) (hQ : ∀ b, Q b → P b ∨ w0.heap.size ≤ b) (h : Since Q w1 w B t D) : Since P w0 w B t D :=
  ⟨h.desk.mono fun b _ hb => hb.elim (hQ b) fun hb => .inr (Nat.le_trans hg.size hb), grew_then hg (h.grew.mono hQ)⟩
/-- A desk once more, of which nothing lies in what was made since. -/
theorem Since.fresh {w1 : World} (h : Since P w0 w B t D) (hb : Below w.heap.size w w1) : Since (fun b => (P b ∨ w0.heap.size ≤ b) ∧ b < w.heap.size) w1 w1 B t D := since_start (h.desk.here.later hb)
theorem Since.back {w1 : World} (h : Since P w0 w B t D) (hb : Below w.heap.size w w1) (k : Since (fun b => (P b ∨ w0.heap.size ≤ b) ∧ b < w.heap.size) w1 w' B t' D') : Since P w0 w' B t' D' := k.rebase (h.grew.trans (Grew.of_below hb)) fun _ hb => hb.1
theorem Since.envF {w1 : World} (h : Since P w0 w B t D) (hE : EnvP P w0) (hb : Below w.heap.size w w1) : EnvP (fun b => (P b ∨ w0.heap.size ≤ b) ∧ b < w.heap.size) w1 := ((h.env hE).later hb).mono fun _ hb => hb.1

theorem say_s {ws : List (List UInt8)} {v : Value} (h : Since P w0 w B t D) (hs : StrsIn Q w v ws) (h0 : ws ≠ []) (hl : (Lib.join ws [32]).length ≤ 100000) (ht : t.length ≤ 1000000000) :
    Calls Tryz.prog 29 #[.pointer (some ⟨B, 0, none⟩), v] w fun e w' => e = .returned (.tuple #[]) ∧ Since P w0 w' B (t ++ sayB ws) D := by
  refine (say_any h.desk hs h0 hl ht).mono ?_
  rintro e w2 ⟨he, h2, hg2⟩
  exact ⟨he, h.next h2 hg2⟩
theorem tell_s {ns : List Int} {v : Value} (m : List UInt8) (h : Since P w0 w B t D) (hE : EnvP P w0) (hn : NumsAt w v ns) (h64 : ∀ n ∈ ns, I64 n) (hl : ns.length ≤ 100) (hm : m.length ≤ 100) (ht : t.length ≤ 1000000000) :
    Calls Tryz.prog 44 #[.pointer (some ⟨B, 0, none⟩), .string (strB m), v] w fun e w' => e = .returned (.tuple #[]) ∧ Since P w0 w' B (t ++ tellB m ns) D := by
  refine (tell_any m h.desk (h.env hE) hn h64 hl hm ht).mono ?_
  rintro e w2 ⟨he, h2, hg2⟩
  exact ⟨he, h.next h2 hg2⟩
theorem nums_new (w : World) (ns : List Int) (vs : Array Value) (e : vs = (ns.map (Value.int .i64)).toArray) (T : TypeId) (n : Nat) (hn : n = ns.length) : NumsAt (w.alloc (.cells vs T)) (.slice (some ⟨w.heap.size, 0, none⟩) n n) ns := by
  subst e hn
  refine ⟨_, _, rfl, fun i hi => ⟨w.heap.size, 0, rfl, ?_⟩⟩
  rw [World.cell?_alloc_new]; simp [hi]
theorem strs_new (w : World) (ws : List (List UInt8)) (vs : Array Value) (e : vs = (strVs ws).toArray) (T : TypeId) (n : Nat) (hn : n = ws.length) : StrsIn (fun _ => True) (w.alloc (.cells vs T)) (.slice (some ⟨w.heap.size, 0, none⟩) n n) ws := by
  subst e hn
  refine ⟨_, _, rfl, Nat.le_refl _, fun i hi => ⟨w.heap.size, 0, trivial, rfl, ?_⟩⟩
  rw [World.cell?_alloc_new]; simp [strVs, hi]
/-- The same, of words that are written out. -/
theorem say_l {ws : List (List UInt8)} (h : Since P w0 w B t D) (h0 : ws ≠ []) (hl : (Lib.join ws [32]).length ≤ 100000) (ht : t.length ≤ 1000000000) (vs : Array Value) (e : vs = (strVs ws).toArray) (n : Nat) (hn : n = ws.length) :
    Calls Tryz.prog 29 #[.pointer (some ⟨B, 0, none⟩), .slice (some ⟨w.heap.size, 0, none⟩) n n] (w.alloc (.cells vs 9)) fun e w' => e = .returned (.tuple #[]) ∧ Since P w0 w' B (t ++ sayB ws) D :=
  say_s (h.later ((Below.refl _ _).alloc (Nat.le_refl _) _)) (strs_new w ws vs e _ n hn) h0 hl ht
theorem tell_l {ns : List Int} (m : List UInt8) (h : Since P w0 w B t D) (hE : EnvP P w0) (h64 : ∀ n ∈ ns, I64 n) (hl : ns.length ≤ 100) (hm : m.length ≤ 100) (ht : t.length ≤ 1000000000) (vs : Array Value) (e : vs = (ns.map (Value.int .i64)).toArray) (n : Nat) (hn : n = ns.length) :
    Calls Tryz.prog 44 #[.pointer (some ⟨B, 0, none⟩), .string (strB m), .slice (some ⟨w.heap.size, 0, none⟩) n n] (w.alloc (.cells vs 2)) fun e w' => e = .returned (.tuple #[]) ∧ Since P w0 w' B (t ++ tellB m ns) D :=
  tell_s m (h.later ((Below.refl _ _).alloc (Nat.le_refl _) _)) hE (nums_new w ns vs e _ n hn) h64 hl hm ht

theorem one_64 {c : Int} (h : I64 c) : ∀ n ∈ [c], I64 n := fun n hn => by
  obtain rfl : n = c := by simpa using hn
  exact h
theorem i64_seven : I64 7 := ⟨by decide, by decide⟩

set_option maxRecDepth 100000 in
set_option maxHeartbeats 1000000 in
theorem step_s {rv pv : Value} {x : QStep} (h : Since P w0 w B t D) (hE : EnvP P w0) (hr : RoundAt w rv x.r) (fr : Fits x.r) (nr : R64 x.r) (hp : NumsAt w pv x.p) (hx : x.k = 1 → x.r = D.r) (ht : t.length ≤ 1000000000) :
    Calls Tryz.prog 52 #[.pointer (some ⟨B, 0, none⟩), .agg #[.int .i64 x.k, rv, pv, .int .i64 x.keep]] w fun e w' => e = .returned (.tuple #[]) ∧ Since P w0 w' B (t ++ (stepT D x).2) (stepT D x).1 := by
  obtain ⟨kd, r, p, keep⟩ := x
  dsimp only at *
  obtain ⟨ra, rcap, rfl, -⟩ := id hr
  obtain ⟨pa, pcap, rfl, -⟩ := id hp
  have h64 := stepQ_range h.desk.ok (x := ⟨kd, r, p, keep⟩) hx
  obtain ⟨W, eW⟩ : ∃ W, W = w.alloc (.cells #[.int .i64 kd, .slice ra r.length rcap, .slice pa p.length pcap, .int .i64 keep] 96) := ⟨_, rfl⟩
  have hbW : Below w.heap.size w W := by rw [eW]; exact (Below.refl _ _).alloc (Nat.le_refl _) _
  have x0 : W.cell? ⟨w.heap.size, 0, none⟩ = some (.int .i64 kd) := by rw [eW]; go_simp
  have x1 : W.cell? ⟨w.heap.size, 1, none⟩ = some (.slice ra r.length rcap) := by rw [eW]; go_simp
  have x2 : W.cell? ⟨w.heap.size, 2, none⟩ = some (.slice pa p.length pcap) := by rw [eW]; go_simp
  have x3 : W.cell? ⟨w.heap.size, 3, none⟩ = some (.int .i64 keep) := by rw [eW]; go_simp
  have HW : Hid (w.alloc (.cells #[.int .i64 kd, .slice ra r.length rcap, .slice pa p.length pcap, .int .i64 keep] 96) = W) := eW.symm
  clear eW
  have hEW := ((h.env hE).later hbW)
  have hS1 := h.later hbW
  obtain ⟨c, S, va, vb, vd, vs, hk⟩ := hS1.desk
  have c2 := hk.c2
  have hlt := hk.lt
  have hdo := stDo_any (x := ⟨kd, r, p, keep⟩) (hk.st.later (Below.refl _ _).drew) ((hr.later hbW).later (Below.refl _ _).drew) fr nr ((hp.later hbW).later (Below.refl _ _).drew) (hEW.env.lim.later (Below.refl _ _).drew) (fun e => hEW.lim e.1)
  have HK : Hid (∀ w2, StAt (fun b => ((P b ∨ w0.heap.size ≤ b) ∧ c b = 5) ∨ W.drew.heap.size ≤ b) w2 S (stepQ D.l D.k D.m ⟨kd, r, p, keep⟩).l (stepQ D.l D.k D.m ⟨kd, r, p, keep⟩).k (stepQ D.l D.k D.m ⟨kd, r, p, keep⟩).m → Grew (fun b => (P b ∨ w0.heap.size ≤ b) ∧ c b = 5) W.drew w2 → Since P w0 w2 B t (stepT D ⟨kd, r, p, keep⟩).1) := fun w2 hs2 hg2 => by
    have hg : Grew (fun b => (P b ∨ w0.heap.size ≤ b) ∧ c b = 5) W w2 := (Grew.of_below (Below.refl _ _).drew).trans hg2
    exact hS1.next ⟨_, _, _, _, _, _, hk.store hg hs2 (stepQ_64 hk.ok.l64 nr)⟩ (hg.mono fun b hb => hb.1)
  have e2 : Hid ((stepT D ⟨kd, r, p, keep⟩).2 = codeT (stepQ D.l D.k D.m ⟨kd, r, p, keep⟩).c) := rfl
  rw [e2.out]
  generalize (stepT D ⟨kd, r, p, keep⟩).1 = D' at *
  generalize (stepQ D.l D.k D.m ⟨kd, r, p, keep⟩).l = l' at *
  generalize (stepQ D.l D.k D.m ⟨kd, r, p, keep⟩).k = k' at *
  generalize (stepQ D.l D.k D.m ⟨kd, r, p, keep⟩).m = m' at *
  generalize (stepQ D.l D.k D.m ⟨kd, r, p, keep⟩).c = cd at *
  generalize r.length = rn at *
  generalize p.length = pn at *
  have HNo : Hid (∀ w2, Since P w0 w2 B t D' → Calls Tryz.prog 44 #[.pointer (some ⟨B, 0, none⟩), .string ⟨#[110, 111]⟩, .slice (some ⟨w2.heap.size, 0, none⟩) 1 1] (w2.alloc (.cells #[.int .i64 cd] 2)) fun e w' => e = .returned (.tuple #[]) ∧ Since P w0 w' B (t ++ tellB wNo [cd]) D') := fun w2 h2 => tell_l wNo h2 hE (one_64 h64) (by simp) (by decide) ht _ rfl 1 rfl
  have HOk : Hid (∀ w2, Since P w0 w2 B t D' → Calls Tryz.prog 29 #[.pointer (some ⟨B, 0, none⟩), .slice (some ⟨w2.heap.size, 0, none⟩) 1 1] (w2.alloc (.cells #[.string ⟨#[111, 107]⟩] 9)) fun e w' => e = .returned (.tuple #[]) ∧ Since P w0 w' B (t ++ sayB [wOk]) D') := fun w2 h2 => say_l h2 (by simp) (by decide) ht _ rfl 1 rfl
  clear h hE hr hp hx h64 hEW hS1 hk e2 hbW fr nr
  by_cases hc : cd = 0
  · subst hc
    go_enter Tryz.func52, Tryz.ntmps52
    go_wp2_with fail
    rw [HW.out]
    go_region_with (go_at_call 81; refine hdo.mono ?_; rintro e w2 ⟨rfl, hs2, hg2⟩; have h2 := HK.out _ hs2 hg2; clear hs2 hg2)
    all_goals clear hdo HK c2 x0 x1 x2 x3
    all_goals go_wp2_with fail
    all_goals refine (HOk.out _ h2).mono ?_
    all_goals rintro e w3 ⟨rfl, h3⟩
    all_goals clear h2
    all_goals go_wp2_with fail
    all_goals go_end0
    all_goals exact ⟨rfl, by rw [codeT, if_pos rfl]; exact h3⟩
  · have tc : (cd != 0) = true := by simp [hc]
    have e3 : Hid (codeT cd = tellB wNo [cd]) := if_neg hc
    clear hc
    go_enter Tryz.func52, Tryz.ntmps52
    go_wp2_with fail
    rw [HW.out]
    go_region_with (go_at_call 81; refine hdo.mono ?_; rintro e w2 ⟨rfl, hs2, hg2⟩; have h2 := HK.out _ hs2 hg2; clear hs2 hg2)
    all_goals clear hdo HK c2 x0 x1 x2 x3
    all_goals go_wp2_with fail
    all_goals refine (HNo.out _ h2).mono ?_
    all_goals rintro e w3 ⟨rfl, h3⟩
    all_goals clear h2
    all_goals go_wp2_with fail
    all_goals refine bodyPost_ret (results_none rfl _ _ _) rfl ?_
    all_goals exact ⟨rfl, by rw [e3.out]; exact h3⟩

theorem check_fits {r : List (List Op5)} (h : ∀ d ∈ r, (checkF d).1 = 0) (hl : r.length ≤ 9) : Fits r := ⟨by omega, fun i hi => by have := checkF_len (h _ (List.getElem_mem hi)); omega⟩

theorem Since.set {w1 : World} (h : Since P w0 w B t D) (hd : DeskAt (fun b => P b ∨ w0.heap.size ≤ b) w1 B t' D') {o : Nat} {x : Value} (e : w1 = w.setCell ⟨B, o, none⟩ x) : Since P w0 w1 B t' D' :=
  ⟨hd, grew_then h.grew (by rw [e]; exact grew_set w h.desk.lt.2 o x)⟩

set_option maxRecDepth 100000 in
set_option maxHeartbeats 1000000 in
theorem put_s (h : Since P w0 w B t D) (hE : EnvP P w0) (ht : t.length ≤ 1000000000) :
    Calls Tryz.prog 50 #[.pointer (some ⟨B, 0, none⟩)] w fun e w' => e = .returned (.tuple #[]) ∧ Since P w0 w' B (t ++ (putL D).2) (putL D).1 := by
  obtain ⟨c, S, va, vb, vd, vs, hk⟩ := id h.desk
  have c3 := hk.c3
  have hst := step_s (x := ⟨1, D.r, [], 0⟩) h hE hk.round (check_fits hk.ok.good hk.ok.few) hk.ok.d64 (nums_nil w) (fun _ => rfl) ht
  obtain ⟨ra, rcap, rfl, -⟩ := owns_slice hk.row
  have HK : Hid (∀ w2, Since P w0 w2 B (t ++ (stepT D ⟨1, D.r, [], 0⟩).2) (stepT D ⟨1, D.r, [], 0⟩).1 → (∃ vd', w2.cell? ⟨B, 3, none⟩ = some vd') ∧ B < w2.heap.size ∧ w2.frozen? ⟨B, 3, none⟩ = false ∧ Since P w0 (w2.setCell ⟨B, 3, none⟩ (.slice none 0 0)) B (t ++ (putL D).2) (putL D).1) := fun w2 h2 => by
    obtain ⟨c', S', va', vb', vd', vs', hk2⟩ := h2.desk
    exact ⟨⟨_, hk2.c3⟩, hk2.lt, hk2.fr 3, h2.set ⟨_, _, _, _, _, _, hk2.emptied⟩ rfl⟩
  generalize (stepT D ⟨1, D.r, [], 0⟩).2 = t2 at *
  generalize (stepT D ⟨1, D.r, [], 0⟩).1 = D2 at *
  generalize (putL D).2 = t3 at *
  generalize (putL D).1 = D3 at *
  clear hk h
  dsimp only at hst
  go_enter Tryz.func50, Tryz.ntmps50
  go_wp2_with fail
  refine hst.mono ?_
  rintro e w2 ⟨rfl, h2⟩
  obtain ⟨⟨vd', d3⟩, hlt, fz, h3⟩ := HK.out w2 h2
  have H3 : Hid _ := h3
  clear hst HK h2 h3
  go_wp2_with fail
  go_end0
  exact ⟨rfl, H3.out⟩

set_option maxRecDepth 100000 in
set_option maxHeartbeats 1000000 in
theorem state_s (h : Since P w0 w B t D) (hE : EnvP P w0) (s : Nat → Int) (hs : S64 s) (ht : t.length ≤ 1000000000) :
    Calls Tryz.prog 56 #[.pointer (some ⟨B, 0, none⟩), stV s, .bool true] w fun e w' => e = .returned (.tuple #[]) ∧ Since P w0 w' B (t ++ stateT s) D := by
  have hbW : Below w.heap.size w (w.alloc (.cells #[.int .i64 (s 0), .int .i64 (s 1), .int .i64 (s 2), .int .i64 (s 3), .int .i64 (s 4), .int .i64 (s 5), .int .i64 (s 6), .int .i64 (s 7), .int .i64 (s 8), .int .i64 (s 9)] 32)) := (Below.refl _ _).alloc (Nat.le_refl _) _
  have htl := tell_s wState (h.later hbW) hE (nums_new w (ten s) _ rfl 32 10 rfl) (ten_64 hs) (by simp [ten]) (by decide) ht
  clear h hE hbW
  simp only [stV]
  go_enter Tryz.func56, Tryz.ntmps56
  go_wp2_with fail
  refine htl.mono ?_
  rintro e w3 ⟨rfl, h3⟩
  go_wp2_with fail
  go_end0
  exact ⟨rfl, h3⟩

set_option maxRecDepth 100000 in
set_option maxHeartbeats 1000000 in
theorem state_no (h : Since P w0 w B t D) (hE : EnvP P w0) (s : Nat → Int) (ht : t.length ≤ 1000000000) :
    Calls Tryz.prog 56 #[.pointer (some ⟨B, 0, none⟩), stV s, .bool false] w fun e w' => e = .returned (.tuple #[]) ∧ Since P w0 w' B (t ++ noneT) D := by
  have hbW : Below w.heap.size w (w.alloc (.cells #[.int .i64 (s 0), .int .i64 (s 1), .int .i64 (s 2), .int .i64 (s 3), .int .i64 (s 4), .int .i64 (s 5), .int .i64 (s 6), .int .i64 (s 7), .int .i64 (s 8), .int .i64 (s 9)] 32)) := (Below.refl _ _).alloc (Nat.le_refl _) _
  have htl := tell_l wNo (h.later hbW) hE (one_64 i64_seven) (by simp) (by decide) ht _ rfl 1 rfl
  clear h hE hbW
  simp only [stV]
  simp only [World.size_alloc] at htl
  go_enter Tryz.func56, Tryz.ntmps56
  go_wp2_with fail
  refine htl.mono ?_
  rintro e w3 ⟨rfl, h3⟩
  go_wp2_with fail
  refine bodyPost_ret (results_none rfl _ _ _) rfl ?_
  exact ⟨rfl, h3⟩
end
end Go.Proofs.YtehkjbpgibdgpadGreatDoor
namespace Go.Proofs.YtehkjbpgibdgpadGreatDoor
open Go.RowKit Go.Shelf

theorem infoDe : (Tryz.prog.info? 85).map (fun i => (i.zero, i.size, i.bytes)) = some (some (.slice none 0 0), 1, 24) := by kernel_rfl
theorem two_64 {a b : Int} (ha : I64 a) (hb : I64 b) : ∀ n ∈ [a, b], I64 n := fun n hn => by
  simp only [List.mem_cons, List.not_mem_nil, or_false] at hn
  rcases hn with rfl | rfl
  · exact ha
  · exact hb

section
variable {P : Nat → Prop} {w0 w : World} {B : Nat} {t : List UInt8} {D : DSt}

set_option maxRecDepth 100000 in
set_option maxHeartbeats 1000000 in
theorem deed_bad (h : Since P w0 w B t D) (hE : EnvP P w0) (s : List UInt8) (hl : s.length ≤ 1000000) (ht : t.length ≤ 1000000000) (hc : (parseF s).2.1 ≠ 0) :
    Calls Tryz.prog 23 #[.pointer (some ⟨B, 0, none⟩), .string (strB s)] w fun e w' => e = .returned (.tuple #[]) ∧ Since P w0 w' B (t ++ tellB wNo [(parseF s).2.1, (parseF s).2.2]) D := by
  have hp := parse_in s w (by omega) (h.env hE).env
  have hr := parse_fault_range (s := s) (by omega)
  have tc : ((parseF s).2.1 != 0) = true := by simp [hc]
  have HT : Hid (∀ w1, Below w.heap.size w w1 → Calls Tryz.prog 44 #[.pointer (some ⟨B, 0, none⟩), .string ⟨#[110, 111]⟩, .slice (some ⟨w1.heap.size, 0, none⟩) 2 2] (w1.alloc (.cells #[.int .i64 (parseF s).2.1, .int .i64 (parseF s).2.2] 2)) fun e w' => e = .returned (.tuple #[]) ∧ Since P w0 w' B (t ++ tellB wNo [(parseF s).2.1, (parseF s).2.2]) D) := fun w1 hb => tell_l wNo (h.later hb) hE (two_64 hr.1 hr.2) (by simp) (by decide) ht _ rfl 2 rfl
  unfold OutPI at hp
  generalize (parseF s).2.1 = fc at *
  generalize (parseF s).2.2 = fa at *
  generalize (parseF s).1 = d at *
  clear h hE hr hc
  go_enter Tryz.func23, Tryz.ntmps23
  go_wp2_with fail
  refine hp.mono ?_
  clear hp
  rintro e w1 ⟨u, rfl, hu, hb1⟩
  obtain ⟨ua, ucap, rfl, -⟩ := hu
  have hb2 : Below w.heap.size w (w1.alloc (.cells #[.int .i64 fc, .int .i64 fa] 42)) := hb1.alloc hb1.size _
  have hT := HT.out _ hb2
  simp only [World.size_alloc] at hT
  clear HT hb1 hb2
  generalize d.length = dn at *
  go_wp2_with fail
  refine hT.mono ?_
  rintro e w3 ⟨rfl, h3⟩
  clear hT
  go_wp2_with fail
  refine bodyPost_ret (results_none rfl _ _ _) rfl ?_
  exact ⟨rfl, h3⟩

set_option maxRecDepth 100000 in
set_option maxHeartbeats 1000000 in
theorem deed_good (h : Since P w0 w B t D) (hE : EnvP P w0) (s : List UInt8) (hl : s.length ≤ 1000000) (hc : (parseF s).2.1 = 0) :
    Calls Tryz.prog 23 #[.pointer (some ⟨B, 0, none⟩), .string (strB s)] w fun e w' => e = .returned (.tuple #[]) ∧ Since P w0 w' B t ⟨if D.r.length ≤ 8 then D.r ++ [(parseF s).1] else D.r, D.l, D.k, D.m⟩ := by
  obtain ⟨i0, hi, hz0, hz1, hz2⟩ := info_parts infoDe
  have hp := parse_in s w (by omega) (h.env hE).env
  have hck := parse_checked hc
  have h64 := parse_64 s
  obtain ⟨c, S, va, vb, vd, vs, hk⟩ := id h.desk
  have hf := hk.ok.few
  unfold OutPI at hp
  rw [hc] at hp
  generalize (parseF s).2.2 = fa at *
  generalize (parseF s).1 = d at *
  obtain ⟨va', vcap, rfl, hvc⟩ := owns_slice hk.row
  have HK : Hid (DkRaw (fun b => P b ∨ w0.heap.size ≤ b) c w B S va vb (.slice va' D.r.length vcap) vs t D) := hk
  obtain ⟨n, en⟩ : ∃ n, n = D.r.length := ⟨_, rfl⟩
  have En : Hid (n = D.r.length) := en
  rw [← en] at hf HK hvc ⊢
  clear hk hE hc en
  have HS : Hid (Since P w0 w B t D) := h
  clear h
  by_cases h8 : n ≤ 8
  · rw [if_pos h8]
    have t8 : (n : Int) ≤ 8 := by omega
    have HQ : Hid (∀ (u : Value) (W w2 : World) (v2 : Value), Below w.heap.size w W → DeedIn (fun b => w.heap.size ≤ b) W u d → W.grownBy w2 (Value.slice va' n vcap).ownBlock → w2.ownsRow 0 85 1 v2 (n + 1) (vs ++ [u]) → (v2.ownBlock = (Value.slice va' n vcap).ownBlock ∨ v2.ownBlock = some W.heap.size) → w2.cell? ⟨B, 3, none⟩ = some (.slice va' n vcap) ∧ B < w2.heap.size ∧ w2.frozen? ⟨B, 3, none⟩ = false ∧ Since P w0 (w2.setCell ⟨B, 3, none⟩ v2) B t ⟨D.r ++ [d], D.l, D.k, D.m⟩) := fun u W w2 v2 hB hu hg ho hat => by
      have hG : Grew (fun b => (Value.slice va' n vcap).ownBlock = some b) w w2 := (Grew.of_below hB).trans ⟨hg.os, hg.tape, hg.output, hg.size, fun k hk hn => hg.block k hk (fun e => hn e.symm)⟩
      have hnB : ¬ (Value.slice va' n vcap).ownBlock = some B := fun e => by have := (HK.out.rc B e).2; have := HK.out.cB; omega
      have hlt := HK.out.lt
      rw [En.out] at ho h8
      refine ⟨hG.cell HK.out.c3 hnB, Nat.lt_of_lt_of_le hlt hG.size, by rw [hG.frozen (p := ⟨B, 3, none⟩) hlt hnB]; exact HK.out.fr 3, HS.out.next ⟨_, _, _, _, _, _, HK.out.deed hB hu hg ho hat h8 hck h64⟩ ?_⟩
      exact (hG.mono fun b e => (HK.out.rc b e).1).trans (grew_set w2 HK.out.pB 3 v2)
    go_enter Tryz.func23, Tryz.ntmps23
    go_wp2_with fail
    refine hp.mono ?_
    clear hp
    rintro e w1 ⟨u, rfl, hu, hb1⟩
    obtain ⟨ua, ucap, rfl, -⟩ := id hu
    have HU : Hid (DeedIn (fun b => w.heap.size ≤ b) w1 (.slice ua d.length ucap) d) := hu
    clear hu
    obtain ⟨dn, ed⟩ : ∃ dn, dn = d.length := ⟨_, rfl⟩
    rw [← ed] at HU ⊢
    clear ed
    have d3 := cell_later hb1 HK.out.c3
    have hlt : B < w1.heap.size := Nat.lt_of_lt_of_le HK.out.lt hb1.size
    obtain ⟨W, eW⟩ : ∃ W, W = (w1.alloc (.cells #[.int .i64 0, .int .i64 fa] 42)).alloc (.cells #[.slice ua dn ucap] 85) := ⟨_, rfl⟩
    have hB : Below w.heap.size w W := by rw [eW]; exact (hb1.alloc hb1.size _).alloc (by simp; have := hb1.size; omega) _
    have hbW : Below w1.heap.size w1 W := by rw [eW]; exact below_alloc2 w1 _ _
    have HNw : Hid (∀ j x, [Value.slice ua dn ucap][j]? = some x → W.cell? ((⟨w1.heap.size + 1, 0, none⟩ : Addr).add j) = some x) := by
      intro j x hx
      have := cell_one_new (w1.alloc (.cells #[.int .i64 0, .int .i64 fa] 42)) (.slice ua dn ucap) 85 j x hx
      rw [eW]; simpa using this
    have HO : Hid (W.ownsRow 0 85 1 (.slice va' n vcap) n vs) := by
      have h1 := HK.out.row
      rw [← En.out] at h1
      exact owns_kept h1 fun g hg => hB.block g (owns_lt h1 hg).2
    have HU' : Hid (DeedIn (fun b => w.heap.size ≤ b) W (.slice ua dn ucap) d) := HU.out.later hbW
    have HBW : Hid (Below w.heap.size w W) := hB
    have HW : Hid ((w1.alloc (.cells #[.int .i64 0, .int .i64 fa] 42)).alloc (.cells #[.slice ua dn ucap] 85) = W) := eW.symm
    clear eW HU hB hbW
    go_wp2_with (at_builtin; rw [HW.out]; refine wpList_append_own_at _ rfl _ _ 37 rfl 0 85 i0 (.slice none 0 0) 1 24 Tryz.underlying37 hi hz0 hz1 hz2 rfl (by decide) _ _ _ rfl HO.out ⟨w1.heap.size + 1, 0, none⟩ 1 1 [.slice ua dn ucap] rfl rfl HNw.out (by simp [Value.oneCell']) (by unfold maxLen; omega) (by omega) (Nat.zero_le _) ?_; intro v2 w2 hO2 hg2 _ hat2; obtain ⟨x2, xc, rfl, -⟩ := owns_slice hO2; obtain ⟨q1, q2, q3, q4⟩ := HQ.out _ W w2 _ HBW.out HU'.out hg2 hO2 hat2; have Q4 : Hid _ := q4; clear hO2 hg2 hat2 q4 hlt d3 hb1)
    go_end0
    exact ⟨rfl, Q4.out⟩
  · rw [if_neg h8]
    have t8 : ¬ (n : Int) ≤ 8 := by omega
    go_enter Tryz.func23, Tryz.ntmps23
    go_wp2_with fail
    refine hp.mono ?_
    clear hp
    rintro e w1 ⟨u, rfl, hu, hb1⟩
    obtain ⟨ua, ucap, rfl, -⟩ := id hu
    clear hu
    have d3 := cell_later hb1 HK.out.c3
    have hlt : B < w1.heap.size := Nat.lt_of_lt_of_le HK.out.lt hb1.size
    have h9 : Hid (Since P w0 (w1.alloc (.cells #[.int .i64 0, .int .i64 fa] 42)) B t ⟨D.r, D.l, D.k, D.m⟩) := HS.out.later (hb1.alloc hb1.size _)
    clear HK HS
    generalize d.length = dn at *
    go_wp2_with fail
    go_end0
    exact ⟨rfl, h9.out⟩
theorem deed_s (h : Since P w0 w B t D) (hE : EnvP P w0) (s : List UInt8) (hl : s.length ≤ 1000000) (ht : t.length ≤ 1000000000) :
    Calls Tryz.prog 23 #[.pointer (some ⟨B, 0, none⟩), .string (strB s)] w fun e w' => e = .returned (.tuple #[]) ∧ Since P w0 w' B (t ++ (deedL D s).2) (deedL D s).1 := by
  by_cases hc : (parseF s).2.1 = 0
  · refine (deed_good h hE s hl hc).mono ?_
    rintro e w' ⟨rfl, h'⟩
    refine ⟨rfl, ?_⟩
    rw [deedL, if_neg (by simp [hc])]
    simpa using h'
  · refine (deed_bad h hE s hl ht hc).mono ?_
    rintro e w' ⟨rfl, h'⟩
    refine ⟨rfl, ?_⟩
    rw [deedL, if_pos hc]
    exact h'
end
end Go.Proofs.YtehkjbpgibdgpadGreatDoor
