/-
  Texts as lists of bytes: numerals there and back; the words of a text, part by part; and that more blanks ahead of blanks, of semicolons and at both ends change none of them. Nothing of the program's text is imported here.
-/
import Derived.Lib.ItoaLen
import Derived.Lib.ParseIntB
import Derived.Lib.IndexMore
namespace Go.Proofs.YtdohockbmphhfacDoor

/-! ### Numerals -/

theorem digit_val {d : Nat} (h : d < 10) : (UInt8.ofNat (48 + d)).toNat = 48 + d := by
  simp [UInt8.toNat_ofNat']; omega

theorem digits_all (u : Nat) : ∀ c ∈ Lib.decDigits u, 48 ≤ c.toNat ∧ c.toNat ≤ 57 := by
  induction u using Nat.strongRecOn with
  | _ u ih =>
    intro c hc
    rw [Lib.decDigits] at hc
    split at hc
    · rename_i h
      rw [List.mem_singleton.1 hc, digit_val h]; omega
    · rename_i h
      rcases List.mem_append.1 hc with hc | hc
      · exact ih (u / 10) (by omega) c hc
      · rw [List.mem_singleton.1 hc, digit_val (by omega)]; omega

theorem digits_ne (u : Nat) : Lib.decDigits u ≠ [] := by
  rw [Lib.decDigits]; split <;> simp

theorem parseM_digits (M : Nat) (hM : M < 18446744073709551616) (u : Nat) : ∀ r, u ≤ M → Lib.parseUintM M 0 (Lib.decDigits u ++ r) = Lib.parseUintM M u r := by
  induction u using Nat.strongRecOn with
  | _ u ih =>
    intro r hu
    rw [Lib.decDigits]
    split
    · rename_i h
      have e := digit_val h
      simp only [List.singleton_append, Lib.parseUintM, e]
      rw [if_pos (by omega), if_neg (by omega), if_neg (by omega)]
      congr 1; omega
    · rename_i h
      have e := digit_val (d := u % 10) (by omega)
      rw [List.append_assoc, ih (u / 10) (by omega) _ (by omega)]
      simp only [List.singleton_append, Lib.parseUintM, e]
      rw [if_pos (by omega), if_neg (by omega), if_neg (by omega)]
      congr 1; omega

theorem parse_itoa {n : Int} (h0 : -9223372036854775808 ≤ n) (h1 : n ≤ 9223372036854775807) : Lib.parseIntB 64 (Lib.itoa n) = .ok n := by
  unfold Lib.itoa
  split
  · rename_i hn
    have e := parseM_digits (2 ^ 64 - 1) (by decide) n.natAbs [] (by omega)
    rw [List.append_nil] at e
    simp only [Lib.parseIntB, Lib.parseUintB]
    rw [if_pos (Or.inr (by decide)), if_neg (digits_ne _), e]
    simp only [Lib.parseUintM]
    rw [if_neg (by simp), if_neg (by simp; omega), if_pos (by decide)]
    congr 1; omega
  · rename_i hn
    have e := parseM_digits (2 ^ 64 - 1) (by decide) n.toNat [] (by omega)
    rw [List.append_nil] at e
    have hne := digits_ne n.toNat
    have hall := digits_all n.toNat
    cases hl : Lib.decDigits n.toNat with
    | nil => exact absurd hl hne
    | cons c r =>
      rw [hl] at e hall
      have hc := hall c (by simp)
      simp only [Lib.parseIntB, Lib.parseUintB]
      rw [if_neg (show ¬ (c.toNat = 43 ∨ c.toNat = 45) by omega), if_neg (by simp), e]
      simp only [Lib.parseUintM]
      rw [if_neg (by omega), if_neg (by omega), if_neg (by omega)]
      congr 1; omega

/-- The number that a word is: of 64 bits, as short as can be. -/
def numF (l : List UInt8) : Option Int :=
  match Lib.parseIntB 64 l with
  | .ok v => if Lib.itoa v = l then some v else none
  | _ => none

theorem num_itoa {n : Int} (h0 : -9223372036854775808 ≤ n) (h1 : n ≤ 9223372036854775807) : numF (Lib.itoa n) = some n := by
  simp [numF, parse_itoa h0 h1]
theorem num_nil : numF [] = none := by simp [numF, Lib.parseIntB]

theorem itoa_ne (n : Int) : Lib.itoa n ≠ [] := by
  unfold Lib.itoa; split
  · simp
  · exact digits_ne _

/-- A word: no blank, no semicolon. -/
def IsWord (l : List UInt8) : Prop := l ≠ [] ∧ ∀ c ∈ l, c ≠ 32 ∧ c ≠ 59

theorem itoa_word (n : Int) : IsWord (Lib.itoa n) := by
  refine ⟨itoa_ne n, fun c hc => ?_⟩
  have hd : ∀ u, ∀ c ∈ Lib.decDigits u, c ≠ 32 ∧ c ≠ 59 := fun u c hc => by
    have := digits_all u c hc
    constructor <;> (rintro rfl; simp at this)
  unfold Lib.itoa at hc
  split at hc
  · rcases List.mem_cons.1 hc with rfl | hc
    · decide
    · exact hd _ c hc
  · exact hd _ c hc

/-! ### Words -/

/-- A word that is none is left out. -/
def flush (cur : List UInt8) (ws : List (List UInt8)) : List (List UInt8) := if cur = [] then ws else cur :: ws
theorem flush_nil (ws : List (List UInt8)) : flush [] ws = ws := if_pos rfl

/-- What a text begins with: the rest of a word, the words behind it in its part, and the parts behind that. -/
def scan : List UInt8 → List UInt8 × List (List UInt8) × List (List (List UInt8))
  | [] => ([], [], [])
  | c :: r =>
    if c = 59 then ([], [], flush (scan r).1 (scan r).2.1 :: (scan r).2.2)
    else if c = 32 then ([], flush (scan r).1 (scan r).2.1, (scan r).2.2)
    else (c :: (scan r).1, (scan r).2.1, (scan r).2.2)

/-- The parts of a text, each as its words. -/
def lex (s : List UInt8) : List (List (List UInt8)) := flush (scan s).1 (scan s).2.1 :: (scan s).2.2

/-- The first word. -/
def wordF (s : List UInt8) : List UInt8 := (s.dropWhile (· == 32)).takeWhile (· != 32)
/-- What stands behind it. -/
def behindF (s : List UInt8) : List UInt8 := (s.dropWhile (· == 32)).dropWhile (· != 32)

theorem scan_blank (r : List UInt8) : scan (32 :: r) = ([], flush (scan r).1 (scan r).2.1, (scan r).2.2) := by
  rw [scan, if_neg (by decide), if_pos rfl]
theorem scan_semi (r : List UInt8) : scan (59 :: r) = ([], [], flush (scan r).1 (scan r).2.1 :: (scan r).2.2) := by
  rw [scan, if_pos rfl]
theorem scan_char {c : UInt8} (r : List UInt8) (h : c ≠ 32) (h' : c ≠ 59) : scan (c :: r) = (c :: (scan r).1, (scan r).2.1, (scan r).2.2) := by
  rw [scan, if_neg h', if_neg h]

theorem lex_blank (r : List UInt8) : lex (32 :: r) = lex r := by
  simp only [lex, scan_blank, flush_nil]
theorem lex_semi (r : List UInt8) : lex (59 :: r) = [] :: lex r := by
  simp only [lex, scan_semi, flush_nil]
theorem lex_nil : lex [] = [[]] := rfl

theorem lex_blanks (n : Nat) (r : List UInt8) : lex (List.replicate n 32 ++ r) = lex r := by
  induction n with
  | zero => rfl
  | succ n ih => rw [List.replicate_succ, List.cons_append, lex_blank, ih]

/-! ### More blanks -/

/-- k blanks ahead of each blank and each semicolon. -/
def spread (k : Nat) : List UInt8 → List UInt8
  | [] => []
  | c :: r => (if c = 32 ∨ c = 59 then List.replicate k 32 else []) ++ c :: spread k r

theorem scan_ahead {c : UInt8} (h : c = 32 ∨ c = 59) (k : Nat) (r : List UInt8) : scan (List.replicate k 32 ++ c :: r) = scan (c :: r) := by
  induction k with
  | zero => rfl
  | succ k ih =>
    rw [List.replicate_succ, List.cons_append, scan_blank, ih]
    rcases h with rfl | rfl
    · simp only [scan_blank, flush_nil]
    · simp only [scan_semi, flush_nil]

theorem scan_cons_congr {c : UInt8} {r t : List UInt8} (h : scan r = scan t) : scan (c :: r) = scan (c :: t) := by
  rw [scan, scan, h]

theorem scan_spread (k : Nat) (s : List UInt8) : scan (spread k s ++ [32]) = scan s := by
  induction s with
  | nil => rfl
  | cons c r ih =>
    rw [spread, List.append_assoc, List.cons_append]
    by_cases h : c = 32 ∨ c = 59
    · rw [if_pos h, scan_ahead h, scan_cons_congr ih]
    · rw [if_neg h, List.nil_append, scan_cons_congr ih]

/-- HOW IT IS LAID OUT DOES NOT MATTER. -/
theorem lex_spread (k : Nat) (s : List UInt8) : lex (32 :: 32 :: (spread k s ++ [32])) = lex s := by
  rw [lex_blank, lex_blank, lex, scan_spread, ← lex]

/-! ### Word by word, part by part -/

theorem scan_word {w : List UInt8} (hw : ∀ c ∈ w, c ≠ 32 ∧ c ≠ 59) (r : List UInt8) : scan (w ++ r) = (w ++ (scan r).1, (scan r).2.1, (scan r).2.2) := by
  induction w with
  | nil => rfl
  | cons c w ih =>
    obtain ⟨h1, h2⟩ := hw c (by simp)
    rw [List.cons_append, scan_char _ h1 h2, ih (fun d hd => hw d (by simp [hd]))]; rfl

/-- What ends a word. -/
def Ends (r : List UInt8) : Prop := r = [] ∨ ∃ c t, r = c :: t ∧ (c = 32 ∨ c = 59)

theorem scan_ends {r : List UInt8} (h : Ends r) : (scan r).1 = [] := by
  rcases h with rfl | ⟨c, t, rfl, rfl | rfl⟩
  · rfl
  · rw [scan_blank]
  · rw [scan_semi]

theorem lex_word {w r : List UInt8} (hw : IsWord w) (hr : Ends r) : lex (w ++ r) = (w :: (lex r).headD []) :: (lex r).tail := by
  have e := scan_ends hr
  simp only [lex, scan_word hw.2, e, List.append_nil, flush_nil, List.headD_cons, List.tail_cons]
  rw [flush, if_neg hw.1]

theorem takeWhile_all {p : UInt8 → Bool} {l : List UInt8} : ∀ c ∈ l.takeWhile p, p c = true := by
  induction l with
  | nil => intro c hc; cases hc
  | cons a l ih =>
    intro c hc
    rw [List.takeWhile_cons] at hc
    split at hc
    · rcases List.mem_cons.1 hc with rfl | hc
      · assumption
      · exact ih c hc
    · cases hc

theorem dropWhile_blank (s : List UInt8) : ∃ n, s = List.replicate n 32 ++ s.dropWhile (· == 32) := by
  induction s with
  | nil => exact ⟨0, rfl⟩
  | cons c r ih =>
    by_cases h : c = 32
    · subst h
      obtain ⟨n, hn⟩ := ih
      refine ⟨n + 1, ?_⟩
      rw [List.replicate_succ, List.cons_append, List.dropWhile_cons_of_pos (by decide)]
      rw [← hn]
    · exact ⟨0, by rw [List.dropWhile_cons_of_neg (by simpa using h)]; rfl⟩

theorem behind_ends (s : List UInt8) : behindF s = [] ∨ ∃ t, behindF s = 32 :: t := by
  unfold behindF
  generalize s.dropWhile (· == 32) = t
  induction t with
  | nil => exact .inl rfl
  | cons c r ih =>
    by_cases h : c = 32
    · subst h; exact .inr ⟨r, by rw [List.dropWhile_cons_of_neg (by decide)]⟩
    · rw [List.dropWhile_cons_of_pos (by simpa using h)]; exact ih

theorem cut_parts (s : List UInt8) : ∃ n, s = List.replicate n 32 ++ (wordF s ++ behindF s) := by
  obtain ⟨n, hn⟩ := dropWhile_blank s
  exact ⟨n, by rw [wordF, behindF, List.takeWhile_append_dropWhile]; exact hn⟩

/-- A text without semicolons. -/
def NoSemi (s : List UInt8) : Prop := ∀ c ∈ s, c ≠ 59

theorem NoSemi.word {s : List UInt8} (h : NoSemi s) : ∀ c ∈ wordF s, c ≠ 32 ∧ c ≠ 59 := by
  obtain ⟨n, hn⟩ := cut_parts s
  intro c hc
  refine ⟨?_, h c (by rw [hn]; simp [hc])⟩
  have := takeWhile_all c hc
  simpa using this
theorem NoSemi.behind {s : List UInt8} (h : NoSemi s) : NoSemi (behindF s) := by
  obtain ⟨n, hn⟩ := cut_parts s
  intro c hc
  exact h c (by rw [hn]; simp [hc])

/-- The words of a part. -/
def wordsP (s : List UInt8) : List (List UInt8) := (lex s).headD []

theorem lex_part {s : List UInt8} (h : NoSemi s) : (scan s).2.2 = [] := by
  induction s with
  | nil => rfl
  | cons c r ih =>
    have hc := h c (by simp)
    have e := ih (fun d hd => h d (by simp [hd]))
    by_cases h32 : c = 32
    · subst h32; rw [scan_blank, e]
    · rw [scan_char _ h32 hc, e]

/-- The first word, and the words behind it; none: there is none. -/
theorem words_cut {s : List UInt8} (h : NoSemi s) : (wordF s = [] ∧ wordsP s = []) ∨ (wordF s ≠ [] ∧ wordsP s = wordF s :: wordsP (behindF s)) := by
  obtain ⟨n, hn⟩ := cut_parts s
  have e : lex s = lex (wordF s ++ behindF s) := (congrArg lex hn).trans (lex_blanks n _)
  have hB : Ends (behindF s) := by
    rcases behind_ends s with h | ⟨t, h⟩
    · exact .inl h
    · exact .inr ⟨32, t, h, .inl rfl⟩
  by_cases h0 : wordF s = []
  · refine .inl ⟨h0, ?_⟩
    rw [wordsP, e, h0, List.nil_append]
    have : behindF s = [] := by
      rcases behind_ends s with hb | ⟨t, hb⟩
      · exact hb
      · exfalso
        have h1 : ∀ l : List UInt8, (l.dropWhile (· == 32)) ≠ 32 :: t := fun l => by
          induction l with
          | nil => simp
          | cons c r ih =>
            by_cases hc : c = 32
            · subst hc; rw [List.dropWhile_cons_of_pos (by decide)]; exact ih
            · rw [List.dropWhile_cons_of_neg (by simpa using hc)]; simp [hc]
        have h2 : s.dropWhile (· == 32) = 32 :: t := by
          have := List.takeWhile_append_dropWhile (p := (· != (32 : UInt8))) (l := s.dropWhile (· == 32))
          rw [← this]
          show wordF s ++ behindF s = _
          rw [h0, hb]; rfl
        exact h1 s h2
    rw [this]; rfl
  · refine .inr ⟨h0, ?_⟩
    rw [wordsP, e, lex_word ⟨h0, h.word⟩ hB]; rfl

/-- The first part, and what stands behind it. -/
def partF1 (s : List UInt8) : List UInt8 := s.takeWhile (· != 59)
def restF (s : List UInt8) : List UInt8 := (s.dropWhile (· != 59)).tail
def moreF (s : List UInt8) : Bool := s.any (· == 59)

theorem part_noSemi (s : List UInt8) : NoSemi (partF1 s) := fun c hc => by
  have := takeWhile_all c hc
  simpa using this

theorem scan_semi_app (a r : List UInt8) (ha : NoSemi a) : scan (a ++ 59 :: r) = ((scan a).1, (scan a).2.1, lex r) := by
  induction a with
  | nil => rw [List.nil_append, scan_semi]; rfl
  | cons c a ih =>
    have hc := ha c (by simp)
    have e := ih (fun d hd => ha d (by simp [hd]))
    rw [List.cons_append]
    by_cases h32 : c = 32
    · subst h32; simp only [scan_blank, e]
    · simp only [scan_char _ h32 hc, e]

theorem lex_app (a r : List UInt8) (ha : NoSemi a) : lex (a ++ 59 :: r) = wordsP a :: lex r := by
  rw [wordsP, lex, scan_semi_app a r ha, lex]; rfl

theorem lex_more {s : List UInt8} (h : moreF s = true) : lex s = wordsP (partF1 s) :: lex (restF s) := by
  have e : s = partF1 s ++ 59 :: restF s := by
    have h1 := List.takeWhile_append_dropWhile (p := (· != (59 : UInt8))) (l := s)
    have h2 : ∃ t, s.dropWhile (· != 59) = 59 :: t := by
      unfold moreF at h
      clear h1
      induction s with
      | nil => simp at h
      | cons c r ih =>
        by_cases hc : c = 59
        · subst hc; exact ⟨r, by rw [List.dropWhile_cons_of_neg (by decide)]⟩
        · rw [List.dropWhile_cons_of_pos (by simpa using hc)]
          exact ih (by simpa [hc] using h)
    obtain ⟨t, ht⟩ := h2
    rw [partF1, restF, ht, List.tail_cons, ← ht]; exact h1.symm
  conv => lhs; rw [e]
  exact lex_app _ _ (part_noSemi s)

theorem more_false {s : List UInt8} (h : moreF s = false) : NoSemi s := fun c hc => by
  unfold moreF at h
  rw [List.any_eq_false] at h
  simpa using h c hc
theorem part_last {s : List UInt8} (h : moreF s = false) : partF1 s = s := by
  have := more_false h
  unfold partF1
  induction s with
  | nil => rfl
  | cons c r ih =>
    have hc := this c (by simp)
    rw [List.takeWhile_cons_of_pos (by simpa using hc), ih (by simp [moreF] at h ⊢; exact h.2) (fun d hd => this d (by simp [hd]))]
theorem lex_last {s : List UInt8} (h : moreF s = false) : lex s = [wordsP (partF1 s)] := by
  rw [part_last h, wordsP, lex, lex_part (more_false h)]; rfl

/-- No word at all: blanks alone. -/
theorem blanks_word {s : List UInt8} : wordF s = [] ↔ ∀ c ∈ s, c = 32 := by
  unfold wordF
  induction s with
  | nil => simp
  | cons c r ih =>
    by_cases hc : c = 32
    · subst hc; rw [List.dropWhile_cons_of_pos (by decide), ih]; simp
    · rw [List.dropWhile_cons_of_neg (by simpa using hc), List.takeWhile_cons_of_pos (by simpa using hc)]
      simp [hc]
theorem blanks_lex {s : List UInt8} (h : ∀ c ∈ s, c = 32) : lex s = [[]] := by
  induction s with
  | nil => rfl
  | cons c r ih =>
    obtain rfl := h c (by simp)
    rw [lex_blank, ih (fun d hd => h d (by simp [hd]))]
theorem word_lex {s : List UInt8} (h : wordF s ≠ []) : lex s ≠ [[]] := by
  intro e
  rw [Ne, blanks_word] at h
  apply h
  clear h
  induction s with
  | nil => intro c hc; cases hc
  | cons c r ih =>
    by_cases h32 : c = 32
    · subst h32
      rw [lex_blank] at e
      intro d hd
      rcases List.mem_cons.1 hd with rfl | hd
      · rfl
      · exact ih e d hd
    · by_cases h59 : c = 59
      · subst h59; rw [lex_semi] at e; simp [lex] at e
      · rw [lex, scan_char _ h32 h59] at e; simp [flush] at e

/-! ### strings.Cut at a semicolon -/

theorem index_semi (c : UInt8) (r : List UInt8) : Lib.index (c :: r) [59] = if c = 59 then 0 else if Lib.index r [59] = -1 then -1 else Lib.index r [59] + 1 := by
  rw [Lib.index]
  by_cases h : c = 59
  · subst h; rw [if_pos (by simp [List.isPrefixOf]), if_pos rfl]
  · rw [if_neg (by simp [List.isPrefixOf]; exact fun e => h e.symm), if_neg h]
    simp only [beq_iff_eq]

theorem cut_semi (s : List UInt8) : Lib.cut s [59] = (partF1 s, restF s, moreF s) := by
  induction s with
  | nil => rfl
  | cons c r ih =>
    have hge := Lib.index_ge r [59]
    unfold Lib.cut at ih ⊢
    rw [index_semi]
    by_cases h : c = 59
    · subst h
      rw [if_pos rfl, if_pos (by decide)]
      simp [partF1, restF, moreF]
    · rw [if_neg h]
      by_cases h1 : Lib.index r [59] = -1
      · rw [if_pos h1, if_neg (by decide)]
        rw [h1, if_neg (by decide)] at ih
        injection ih with e1 e2
        injection e2 with e2 e3
        have t1 : (c != 59) = true := by simpa using h
        have t2 : (c == 59) = false := by simpa using h
        rw [partF1, restF, moreF, List.takeWhile_cons_of_pos (p := (· != (59 : UInt8))) t1, List.dropWhile_cons_of_pos (p := (· != (59 : UInt8))) t1, List.any_cons, t2, ← partF1, ← restF, ← moreF, ← e1, ← e2, ← e3]; rfl
      · rw [if_neg h1, if_pos (by omega)]
        rw [if_pos (by omega)] at ih
        injection ih with e1 e2
        injection e2 with e2 e3
        have t1 : (c != 59) = true := by simpa using h
        have t2 : (c == 59) = false := by simpa using h
        obtain ⟨n, hn⟩ : ∃ n : Nat, Lib.index r [59] = n := ⟨(Lib.index r [59]).toNat, by omega⟩
        rw [partF1, restF, moreF, List.takeWhile_cons_of_pos (p := (· != (59 : UInt8))) t1, List.dropWhile_cons_of_pos (p := (· != (59 : UInt8))) t1, List.any_cons, t2, ← partF1, ← restF, ← moreF, ← e1, ← e2, ← e3, hn]
        have : ((n : Int) + 1).toNat = n + 1 := by omega
        rw [this, Int.toNat_natCast]
        simp

theorem rest_shorter {s : List UInt8} (h : moreF s = true) : (restF s).length < s.length := by
  unfold moreF at h
  unfold restF
  induction s with
  | nil => simp at h
  | cons c r ih =>
    by_cases hc : c = 59
    · subst hc; rw [List.dropWhile_cons_of_neg (by decide)]; simp
    · rw [List.dropWhile_cons_of_pos (by simpa using hc)]
      have := ih (by simpa [hc] using h)
      rw [List.length_cons]; omega
theorem part_length (s : List UInt8) : (partF1 s).length ≤ s.length := (List.takeWhile_sublist _).length_le
theorem behind_length (s : List UInt8) : (behindF s).length ≤ s.length := ((List.dropWhile_sublist _).trans (List.dropWhile_sublist _)).length_le
theorem word_length (s : List UInt8) : (wordF s).length ≤ s.length := ((List.takeWhile_sublist _).trans (List.dropWhile_sublist _)).length_le
end Go.Proofs.YtdohockbmphhfacDoor
