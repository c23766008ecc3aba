/-
  A region that draws its order: what is held of the world is asked till the late operations come up.
-/
import Derived.Deep.RegionHeld3
namespace Go.Proofs.YtdohockbmphhfacDoor
open Go

section
variable {P : Program} {md : Region.Mode} {ops : Array Oper} {Q : Exit → Act → World → Prop} {S : World → Prop} {late : Nat → Bool}

/-- Whatever order is picked from here on; S holds behind each operation that is not a late one. -/
def AnyTill (P : Program) (md : Region.Mode) (ops : Array Oper) (Q : Exit → Act → World → Prop) (S : World → Prop) (late : Nat → Bool) : Nat → Array Bool → Act → World → Prop
  | 0, listed, a, w => Region.ready md ops listed = [] ∧ Q .normal a w
  | n + 1, listed, a, w => (Region.ready md ops listed = [] → Q .normal a w) ∧
      ∀ i ∈ Region.ready md ops listed, wpOp P ops Q i (fun a' w' => (late i = false → S w') ∧ AnyTill P md ops Q S late n (listed.setIfInBounds i true) a' w') a w

theorem AnyTill.any : ∀ (n : Nat) (listed : Array Bool) (a : Act) (w : World), AnyTill P md ops Q S late n listed a w → wpAny P md ops Q n listed a w
  | 0, _, _, _, h => h
  | n + 1, _, _, _, h => ⟨h.1, fun i hi => wpOp_mono (fun a' w' h' => AnyTill.any n _ a' w' h'.2) (h.2 i hi)⟩

/-- The operation o waits for i, or for one of L. -/
def waitsOn (md : Region.Mode) (L : List Nat) (i : Nat) (o : Oper) : Bool := o.after.any fun e => Region.binds md e && (e.on == i || L.contains e.on)
/-- Each late operation, and each of L, waits for i or for one of L. -/
def waitsBy (md : Region.Mode) (ops : Array Oper) (late : Nat → Bool) (L : List Nat) (i : Nat) : Bool :=
  (List.range ops.size).all fun j => !(late j || L.contains j) || (match ops[j]? with | some o => waitsOn md L i o | none => true)
theorem waitsBy_spec {L : List Nat} {i : Nat} (h : waitsBy md ops late L i = true) {j : Nat} {oj : Oper} (hj : ops[j]? = some oj) (hl : late j = true ∨ j ∈ L) : ∃ e ∈ oj.after, Region.binds md e = true ∧ (e.on = i ∨ e.on ∈ L) := by
  unfold waitsBy at h
  rw [List.all_eq_true] at h
  have h1 := h j (List.mem_range.2 (Array.getElem?_eq_some_iff.1 hj).1)
  have h2 : (late j || L.contains j) = true := by rcases hl with hl | hl <;> simp [hl]
  rw [h2, hj] at h1
  simp only [Bool.not_true, Bool.false_or, waitsOn] at h1
  obtain ⟨e, he, hb⟩ := Array.any_eq_true'.1 h1
  simp only [Bool.and_eq_true, Bool.or_eq_true, beq_iff_eq, List.contains_eq_mem, decide_eq_true_eq] at hb
  exact ⟨e, he, hb.1, hb.2⟩

theorem anyTill_first {i : Nat} {oi : Oper} {v : Value} {L : List Nat} (hi : ops[i]? = some oi) (hsel : ∀ (j : Nat) (o : Oper) cs b, ops[j]? = some o → o.op ≠ .select cs b)
    (hQ : ∀ c a w, Q (.panic c) (a.put oi.dst v) w → Q (.panic c) a w) (hl : waitsBy md ops late L i = true) :
    ∀ (n : Nat) (listed : Array Bool) (a : Act) (w : World),
      (∀ j oj, ops[j]? = some oj → j ≠ i → listed.getD j true = false → (∀ e ∈ oj.after, Region.binds md e = true → e.on ≠ i) → oi.apart ops oj = true) →
      i ∈ Region.ready md ops listed → (∀ l ∈ L, listed.getD l true = false) → YieldsIf P ops S oi v a → S w →
      AnyTill P md ops Q S late n (listed.setIfInBounds i true) (a.put oi.dst v) w → AnyTill P md ops Q S late (n + 1) listed a w := by
  intro n
  induction n with
  | zero =>
    intro listed a w _ hr _ hy hS H
    refine ⟨fun h => (by rw [h] at hr; cases hr), fun j hj => ?_⟩
    by_cases hji : j = i
    · subst hji; exact hy.wpOp hi hS ⟨fun _ => hS, H⟩
    · have := ready_mono hj hji
      rw [H.1] at this; cases this
  | succ n ih =>
    intro listed a w hfree hr hL hy hS H
    refine ⟨fun h => (by rw [h] at hr; cases hr), fun j hj => ?_⟩
    by_cases hji : j = i
    · subst hji; exact hy.wpOp hi hS ⟨fun _ => hS, H⟩
    · have h1 := H.2 j (ready_mono hj hji)
      obtain ⟨hjun, oj, hoj, hall⟩ := mem_ready.1 hj
      have hun : listed.getD i true = false := (mem_ready.1 hr).1
      have hno : ∀ k, listed.getD k true = false → listed.getD k false = true → False := fun k h0 h3 => by
        rcases Nat.lt_or_ge k listed.size with h' | h'
        · simp [h'] at h0 h3; rw [h0] at h3; cases h3
        · simp [Array.getElem?_eq_none h'] at h3
      have hnot : ∀ e ∈ oj.after, Region.binds md e = true → e.on ≠ i := fun e he hb heq => hno i hun (by rw [← heq]; exact hall e he hb)
      have hfree2 : ¬ (late j = true ∨ j ∈ L) := fun hc => by
        obtain ⟨e, he, hb, hon | hon⟩ := waitsBy_spec hl hoj hc
        · exact hnot e he hb hon
        · exact hno e.on (hL e.on hon) (hall e he hb)
      have hearly : late j = false := by cases hlj : late j with
        | false => rfl
        | true => exact absurd (.inl hlj) hfree2
      have h2 := wpOp_putIf hoj (hfree j oj hoj hji hjun hnot) (fun cs b => hsel i oi cs b hi) (fun cs b => hsel j oj cs b hoj) hQ hy h1
      refine wpOp_mono (fun a' w' h3 => ⟨fun _ => h3.2.1 hearly, ih (listed.setIfInBounds j true) a' w' (fun k ok hk hki hku hno => hfree k ok hk hki ?_ hno) (ready_mono hr (Ne.symm hji)) (fun l hl => ?_) h3.1 (h3.2.1 hearly) ?_⟩) h2
      · by_cases hjk : j = k
        · subst hjk; exact hjun
        · rw [getD_set_ne true hjk] at hku; exact hku
      · rw [getD_set_ne true (fun (e : j = l) => hfree2 (.inr (by rw [e]; exact hl)))]; exact hL l hl
      · rw [Array.setIfInBounds_comm _ _ hji]; exact h3.2.2

/-- The same behind a wall that no unifier looks through. -/
structure AnyT (P : Program) (md : Region.Mode) (ops : Array Oper) (Q : Exit → Act → World → Prop) (S : World → Prop) (late : Nat → Bool) (n : Nat) (listed : Array Bool) (a : Act) (w : World) : Prop where
  out : AnyTill P md ops Q S late n listed a w

theorem anyT_take (i : Nat) (L : List Nat) (v : Value) {oi : Oper} {n : Nat} {listed : Array Bool} {a : Act} {w : World} (hi : ops[i]? = some oi)
    (hs : Region.noSelect ops = true) (hf : Region.free md ops listed i = true) (hr : (Region.ready md ops listed).contains i = true) (hl : waitsBy md ops late L i = true) (hL : (L.all fun l => listed.getD l true == false) = true)
    (hQ : ∀ c a w, Q (.panic c) (a.put oi.dst v) w → Q (.panic c) a w) (hy : YieldsIf P ops S oi v a) (hS : S w)
    (h : AnyT P md ops Q S late n (listed.setIfInBounds i true) (a.put oi.dst v) w) : AnyT P md ops Q S late (n + 1) listed a w :=
  ⟨anyTill_first hi (Region.noSelect_spec hs) hQ hl n listed a w (Region.free_spec hi hf) (by simpa using hr) (fun l hl => by have := List.all_eq_true.1 hL l hl; simpa using this) hy hS h.out⟩

/-- Each of rs comes up next. -/
structure EachT (P : Program) (md : Region.Mode) (ops : Array Oper) (Q : Exit → Act → World → Prop) (S : World → Prop) (late : Nat → Bool) (n : Nat) (listed : Array Bool) (a : Act) (w : World) (rs : List Nat) : Prop where
  out : ∀ i ∈ rs, wpOp P ops Q i (fun a' w' => (late i = false → S w') ∧ AnyTill P md ops Q S late n (listed.setIfInBounds i true) a' w') a w
theorem EachT.nil {n : Nat} {listed : Array Bool} {a : Act} {w : World} : EachT P md ops Q S late n listed a w [] := ⟨fun _ h => by cases h⟩
theorem EachT.cons {n : Nat} {listed : Array Bool} {a : Act} {w : World} {i : Nat} {o : Oper} {rs : List Nat} (ho : ops[i]? = some o)
    (h : ∀ K' : Act → World → Prop, Shut (∀ a w, (late i = false → S w) → AnyT P md ops Q S late n (listed.setIfInBounds i true) a w → K' a w) → if Region.wanted o (yielded ops a.tmps) = true then Oper.wp P o a w K' Q else K' (a.put o.dst undef) w)
    (hs : EachT P md ops Q S late n listed a w rs) : EachT P md ops Q S late n listed a w (i :: rs) := ⟨fun j hj => by
  rcases List.mem_cons.1 hj with rfl | hj
  · exact wpOp_step ho (fun K' hK => h K' (fun a w hS hW => hK a w ⟨hS, hW.out⟩))
  · exact hs.out j hj⟩
theorem anyT_ready (rs : List Nat) {n : Nat} {listed : Array Bool} {a : Act} {w : World} (hr : Region.ready md ops listed = rs) (hne : rs ≠ [])
    (h : EachT P md ops Q S late n listed a w rs) : AnyT P md ops Q S late (n + 1) listed a w := ⟨⟨fun h0 => absurd (hr ▸ h0) hne, hr ▸ h.out⟩⟩
theorem anyT_done {listed : Array Bool} {a : Act} {w : World} (hr : Region.ready md ops listed = []) (h : Q .normal a w) : AnyT P md ops Q S late 0 listed a w := ⟨⟨hr, h⟩⟩
theorem wp_region_till {id : Nat} {a : Act} {w : World} (late : Nat → Bool) (hm : P.follows .mixedOrders = true) (hS : S w.drew)
    (h : S w.drew → AnyT P .any ops Q S late ops.size (Array.replicate ops.size false) a w.drew) : (Code.region id ops true).wp P Q a w :=
  wp_region_any hm (AnyTill.any _ _ _ _ (h hS).out)
end
end Go.Proofs.YtdohockbmphhfacDoor
