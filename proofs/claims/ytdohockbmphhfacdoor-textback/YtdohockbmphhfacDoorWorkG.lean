/-
  Worlds that part in some blocks alone; a deed in blocks of which something is known; rows of the call's own, and append as one step of a region.
-/
import Derived.Test.YtdohockbmphhfacDoorWalkB
import Derived.Test.YtdohockbmphhfacDoorWalkC
import Derived.Maps.AppendAt
import Derived.Deep.RegionLaw
import Derived.OwnWalk
namespace Go.Proofs.YtdohockbmphhfacDoor
open Go.RowKit

/-- All blocks that lay there are as they were, but for some. -/
structure Grew (S : Nat → Prop) (w w' : World) : Prop where
  os : w'.os = w.os
  tape : w'.tape = w.tape
  output : w'.output = w.output
  size : w.heap.size ≤ w'.heap.size
  block : ∀ k, k < w.heap.size → ¬ S k → w'.heap[k]? = w.heap[k]?
theorem Grew.refl (S : Nat → Prop) (w : World) : Grew S w w := ⟨rfl, rfl, rfl, Nat.le_refl _, fun _ _ _ => rfl⟩
theorem Grew.trans {S : Nat → Prop} {a b c : World} (h : Grew S a b) (k : Grew S b c) : Grew S a c :=
  ⟨k.os.trans h.os, k.tape.trans h.tape, k.output.trans h.output, Nat.le_trans h.size k.size, fun i hi hn => (k.block i (Nat.lt_of_lt_of_le hi h.size) hn).trans (h.block i hi hn)⟩
theorem Grew.of_below {S : Nat → Prop} {w w' : World} (h : Below w.heap.size w w') : Grew S w w' := ⟨h.os, h.tape, h.output, h.size, fun i hi _ => h.block i hi⟩
theorem Grew.of_grown {S : Nat → Prop} {w w' : World} {B : Nat} (h : w.grownBy w' (some B)) (hB : S B) : Grew S w w' :=
  ⟨h.os, h.tape, h.output, h.size, fun i hi hn => h.block i hi (fun e => hn (by cases e; exact hB))⟩
theorem Grew.mono {S S' : Nat → Prop} {w w' : World} (h : Grew S w w') (hS : ∀ k, S k → S' k) : Grew S' w w' := ⟨h.os, h.tape, h.output, h.size, fun i hi hn => h.block i hi (fun e => hn (hS i e))⟩
theorem Grew.drew {S : Nat → Prop} {a w : World} (h : Grew S a w) : Grew S a w.drew := ⟨h.os, h.tape, h.output, h.size, h.block⟩
theorem Grew.cell {S : Nat → Prop} {w w' : World} (h : Grew S w w') {p : Addr} {v : Value} (hp : w.cell? p = some v) (hn : ¬ S p.block) : w'.cell? p = some v := by
  rw [World.cell?_of_block (w := w) (h.block p.block (World.block_lt_of_cell? w _ hp) hn)]; exact hp
theorem Grew.frozen {S : Nat → Prop} {w w' : World} (h : Grew S w w') {p : Addr} (hp : p.block < w.heap.size) (hn : ¬ S p.block) : w'.frozen? p = w.frozen? p := World.frozen?_of_block (w := w) (h.block p.block hp hn)
theorem Grew.below {S : Nat → Prop} {n : Nat} {a w w' : World} (h : Grew S w w') (ha : Below n a w) (hn : n ≤ w.heap.size) (hS : ∀ k, S k → n ≤ k) : Below n a w' :=
  ⟨h.os.trans ha.os, h.tape.trans ha.tape, h.output.trans ha.output, Nat.le_trans ha.size h.size, fun k hk => (h.block k (by omega) (fun e => by have := hS k e; omega)).trans (ha.block k hk)⟩

/-- A deed in blocks of which something is known. -/
def DeedIn (P : Nat → Prop) (w : World) (v : Value) (d : List Op5) : Prop :=
  ∃ a cap, v = .slice a d.length cap ∧ ∀ i (h : i < d.length), ∃ b off, P b ∧ a = some ⟨b, off, none⟩ ∧
    w.cell? ⟨b, off + i * 5, none⟩ = some (.int .i64 d[i].k) ∧ w.cell? ⟨b, off + i * 5 + 1, none⟩ = some (.int .i64 d[i].a) ∧
    w.cell? ⟨b, off + i * 5 + 2, none⟩ = some (.int .i64 d[i].b) ∧ w.cell? ⟨b, off + i * 5 + 3, none⟩ = some (.int .i64 d[i].c) ∧
    w.cell? ⟨b, off + i * 5 + 4, none⟩ = some (.int .i64 d[i].n)
theorem DeedIn.at {P : Nat → Prop} {w : World} {v : Value} {d : List Op5} (h : DeedIn P w v d) : DeedAt w v d := by
  obtain ⟨a, cap, rfl, h⟩ := h
  refine ⟨a, cap, rfl, fun i hi => ?_⟩
  obtain ⟨b, off, -, e, hc⟩ := h i hi
  exact ⟨b, off, e, hc⟩
theorem DeedIn.mono {P Q : Nat → Prop} {w : World} {v : Value} {d : List Op5} (h : DeedIn P w v d) (hPQ : ∀ b, b < w.heap.size → P b → Q b) : DeedIn Q w v d := by
  obtain ⟨a, cap, rfl, h⟩ := h
  refine ⟨a, cap, rfl, fun i hi => ?_⟩
  obtain ⟨b, off, hp, e, hc⟩ := h i hi
  exact ⟨b, off, hPQ b (World.block_lt_of_cell? w _ hc.1) hp, e, hc⟩
theorem DeedIn.grew {P S : Nat → Prop} {w w' : World} {v : Value} {d : List Op5} (h : DeedIn P w v d) (hg : Grew S w w') (hPS : ∀ b, P b → ¬ S b) : DeedIn P w' v d := by
  obtain ⟨a, cap, rfl, h⟩ := h
  refine ⟨a, cap, rfl, fun i hi => ?_⟩
  obtain ⟨b, off, hp, e, c0, c1, c2, c3, c4⟩ := h i hi
  have hn := hPS b hp
  exact ⟨b, off, hp, e, hg.cell c0 hn, hg.cell c1 hn, hg.cell c2 hn, hg.cell c3 hn, hg.cell c4 hn⟩
theorem DeedIn.later {P : Nat → Prop} {w w' : World} {v : Value} {d : List Op5} (h : DeedIn P w v d) (hb : Below w.heap.size w w') : DeedIn P w' v d := h.grew (S := fun _ => False) (Grew.of_below hb) (fun _ _ h => h)

def deedCells : List Op5 → List Value
  | [] => []
  | o :: r => .int .i64 o.k :: .int .i64 o.a :: .int .i64 o.b :: .int .i64 o.c :: .int .i64 o.n :: deedCells r
theorem deedCells_length (d : List Op5) : (deedCells d).length = d.length * 5 := by
  induction d with
  | nil => rfl
  | cons o r ih => simp only [deedCells, List.length_cons, ih]; omega
theorem deedCells_one (d : List Op5) : ∀ u ∈ deedCells d, u.oneCell' = true := by
  induction d with
  | nil => intro u hu; simp [deedCells] at hu
  | cons o r ih =>
    intro u hu
    simp only [deedCells, List.mem_cons] at hu
    rcases hu with rfl | rfl | rfl | rfl | rfl | hu
    · rfl
    · rfl
    · rfl
    · rfl
    · rfl
    · exact ih u hu
theorem deedCells_at (d : List Op5) : ∀ i (h : i < d.length), (deedCells d)[i * 5]? = some (.int .i64 d[i].k) ∧ (deedCells d)[i * 5 + 1]? = some (.int .i64 d[i].a) ∧ (deedCells d)[i * 5 + 2]? = some (.int .i64 d[i].b) ∧ (deedCells d)[i * 5 + 3]? = some (.int .i64 d[i].c) ∧ (deedCells d)[i * 5 + 4]? = some (.int .i64 d[i].n) := by
  induction d with
  | nil => intro i h; simp at h
  | cons o r ih =>
    intro i h
    cases i with
    | zero => exact ⟨rfl, rfl, rfl, rfl, rfl⟩
    | succ i =>
      have := ih i (by simpa using h)
      rw [show (i + 1) * 5 = i * 5 + 5 by omega]
      exact this
theorem addr_add (b off t : Nat) : (⟨b, off, none⟩ : Addr).add t = ⟨b, off + t, none⟩ := by
  unfold Addr.add; split <;> simp_all
theorem DeedAt.cells {w : World} {a : Option Addr} {cap : Nat} {d : List Op5} (h : DeedAt w (.slice a d.length cap) d) (h0 : 0 < d.length) : ∃ b off, a = some ⟨b, off, none⟩ ∧ ∀ j u, (deedCells d)[j]? = some u → w.cell? ((⟨b, off, none⟩ : Addr).add j) = some u := by
  obtain ⟨a', cap', e, h⟩ := h
  cases e
  obtain ⟨b, off, rfl, -⟩ := h 0 h0
  refine ⟨b, off, rfl, fun j u hu => ?_⟩
  have hj : j < d.length * 5 := by
    have := (List.getElem?_eq_some_iff.1 hu).1
    rw [deedCells_length] at this; exact this
  obtain ⟨q, m, hm, rfl⟩ : ∃ q m, m < 5 ∧ j = q * 5 + m := ⟨j / 5, j % 5, by omega, by omega⟩
  obtain ⟨b', off', e, c0, c1, c2, c3, c4⟩ := h q (by omega)
  cases e
  obtain ⟨p0, p1, p2, p3, p4⟩ := deedCells_at d q (by omega)
  rw [addr_add]
  have : m = 0 ∨ m = 1 ∨ m = 2 ∨ m = 3 ∨ m = 4 := by omega
  rcases this with rfl | rfl | rfl | rfl | rfl
  · rw [Nat.add_zero] at hu ⊢; rw [p0] at hu; cases hu; exact c0
  · rw [p1] at hu; cases hu; rw [← Nat.add_assoc]; exact c1
  · rw [p2] at hu; cases hu; rw [← Nat.add_assoc]; exact c2
  · rw [p3] at hu; cases hu; rw [← Nat.add_assoc]; exact c3
  · rw [p4] at hu; cases hu; rw [← Nat.add_assoc]; exact c4
theorem deedIn_row {w : World} {g cap : Nat} {d : List Op5} {t : TypeId} (P : Nat → Prop) (hP : P g) (hg : w.heap[g]? = some (.cells (deedCells d).toArray t (0, 0))) : DeedIn P w (.slice (some ⟨g, 0, none⟩) d.length cap) d := by
  refine ⟨_, cap, rfl, fun i hi => ⟨g, 0, hP, rfl, ?_⟩⟩
  obtain ⟨p0, p1, p2, p3, p4⟩ := deedCells_at d i hi
  have hc : ∀ j, w.cell? ⟨g, j, none⟩ = (deedCells d)[j]? := fun j => by simp [World.cell?, hg]
  simp only [Nat.zero_add, hc]
  exact ⟨p0, p1, p2, p3, p4⟩

theorem step_append_at {P : Program} {ops : Array Oper} {o : Oper} {a : Act} {w : World} {K : Act → World → Prop} {Q : Exit → Act → World → Prop} {E : Prop}
    (hgd : o.guard = none) (s x : Operand) (t : TypeId) (ho : o.op = .call { callee := .builtin .append, args := #[s, x], argTypes := #[t, t] })
    (base : Nat) (e : TypeId) (i : TypeInfo) (z : Value) (size bytes : Nat) (ht : P.underlying t = some (.slice e)) (hi : P.info? e = some i) (hz : i.zero = some z)
    (hsize : i.size = size) (hby : i.bytes = bytes) (hzs : z.cells.size = size) (hsz : 0 < size)
    (v : Value) (n : Nat) (xs : List Value) (hs : a.eval s = v) (hown : w.ownsRow base e size v n xs)
    (ad : Addr) (m c : Nat) (news : List Value) (hx : a.eval x = .slice (some ad) m c) (hl : news.length = m * size) (hnews : ∀ j u, news[j]? = some u → w.cell? (ad.add j) = some u) (h1 : ∀ u ∈ news, u.oneCell' = true)
    (h63 : n + m ≤ maxLen) (hbytes : (n + m) * bytes ≤ 140737488355328) (hbase : base ≤ w.heap.size)
    (h : ∀ v' w', w'.ownsRow base e size v' (n + m) (xs ++ news) → w.grownBy w' v.ownBlock → (v'.ownBlock = v.ownBlock ∨ v'.ownBlock = some w.heap.size) → K (a.put o.dst v') w') :
    if Region.wanted o (yielded ops a.tmps) = true then Oper.wp P o a w K Q else E := by
  have hw : Region.wanted o (yielded ops a.tmps) = true := by simp [Region.wanted, hgd]
  rw [if_pos hw]
  obtain ⟨v', w', hr, h2, h3, -, h5⟩ := run_append_own_at (P := P) w base t o.type e i z size bytes ht hi hz hsize hby hzs hsz v n xs hown ad m c news hl hnews h1 h63 hbytes hbase
  unfold Oper.wp execOp
  simp only [ho, resolve, invoke, builtin, Sem.run_bind, Sem.run_pure, Result.andThen_ok, List.map_toArray, List.map_cons, List.map_nil, hs, hx, hr]
  exact h v' w' h2 h3 h5

theorem owns_kept {w w' : World} {base : Nat} {e : TypeId} {size : Nat} {v : Value} {n : Nat} {xs : List Value} (h : w.ownsRow base e size v n xs) (hb : ∀ g, v.ownBlock = some g → w'.heap[g]? = w.heap[g]?) : w'.ownsRow base e size v n xs := by
  refine ⟨h.1, ?_⟩
  rcases h.2 with hn | ⟨g, cap, cur, hv, hbase, hg, rest⟩
  · exact .inl hn
  · refine .inr ⟨g, cap, cur, hv, hbase, ?_, rest⟩
    rw [hb g (by rw [hv]; rfl)]; exact hg
theorem owns_lt {w : World} {base : Nat} {e : TypeId} {size : Nat} {v : Value} {n : Nat} {xs : List Value} (h : w.ownsRow base e size v n xs) {g : Nat} (hg : v.ownBlock = some g) : base ≤ g ∧ g < w.heap.size := by
  rcases h.2 with ⟨rfl, -⟩ | ⟨g', cap, cur, rfl, hbase, hc, -⟩
  · cases hg
  · cases hg
    exact ⟨hbase, (Array.getElem?_eq_some_iff.1 hc).1⟩
theorem owns_below {w w' : World} {base : Nat} {e : TypeId} {size : Nat} {v : Value} {n : Nat} {xs : List Value} (h : w.ownsRow base e size v n xs) (hb : Below w.heap.size w w') : w'.ownsRow base e size v n xs := owns_kept h fun g hg => hb.block g (owns_lt h hg).2
theorem owns_cells {w : World} {base : Nat} {e : TypeId} {v : Value} {n : Nat} {xs : List Value} {size : Nat} (h : w.ownsRow base e size v n xs) (hn : 0 < n) : ∃ g cap, v = .slice (some ⟨g, 0, none⟩) n cap ∧ ∀ j u, xs[j]? = some u → w.cell? ⟨g, j, none⟩ = some u := by
  have hc := h
  rcases h.2 with ⟨-, h0⟩ | ⟨g, cap, cur, rfl, -⟩
  · omega
  · refine ⟨g, cap, rfl, fun j u hj => ?_⟩
    have := hc.cells (g := g) rfl j u hj
    rw [show (⟨g, 0, none⟩ : Addr).add j = ⟨g, j, none⟩ by unfold Addr.add; split <;> simp_all] at this
    exact this

end Go.Proofs.YtdohockbmphhfacDoor
