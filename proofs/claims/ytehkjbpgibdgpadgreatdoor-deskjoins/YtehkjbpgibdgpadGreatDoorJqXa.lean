/-
  Texts as lists of bytes: numerals there and back; the words of a text, part by part; and that more blanks ahead of blanks, of semicolons and at both ends change none of them. Nothing of the program's text is imported here. Deeds as texts, and texts as deeds, on lists of bytes; there and back. Nothing of the program's text is imported here.
-/
import Derived.Lib.ItoaLen
import Derived.Lib.ParseIntB
import Derived.Lib.IndexMore
import Derived.Test.YtehkjbpgibdgpadGreatDoorJqMa
namespace Go.Proofs.YtehkjbpgibdgpadGreatDoor

/-! ### Numerals -/

theorem digit_val {d : Nat} (h : d < 10) : (UInt8.ofNat (48 + d)).toNat = 48 + d := by
  simp [UInt8.toNat_ofNat']; omega

theorem digits_all (u : Nat) : ∀ c ∈ Lib.decDigits u, 48 ≤ c.toNat ∧ c.toNat ≤ 57 := by
  induction u using Nat.strongRecOn with
  | _ u ih =>
    intro c hc
    rw [Lib.decDigits] at hc
    split at hc
    · rename_i h
      rw [List.mem_singleton.1 hc, digit_val h]; omega
    · rename_i h
      rcases List.mem_append.1 hc with hc | hc
      · exact ih (u / 10) (by omega) c hc
      · rw [List.mem_singleton.1 hc, digit_val (by omega)]; omega

theorem digits_ne (u : Nat) : Lib.decDigits u ≠ [] := by
  rw [Lib.decDigits]; split <;> simp

theorem parseM_digits (M : Nat) (hM : M < 18446744073709551616) (u : Nat) : ∀ r, u ≤ M → Lib.parseUintM M 0 (Lib.decDigits u ++ r) = Lib.parseUintM M u r := by
  induction u using Nat.strongRecOn with
  | _ u ih =>
    intro r hu
    rw [Lib.decDigits]
    split
    · rename_i h
      have e := digit_val h
      simp only [List.singleton_append, Lib.parseUintM, e]
      rw [if_pos (by omega), if_neg (by omega), if_neg (by omega)]
      congr 1; omega
    · rename_i h
      have e := digit_val (d := u % 10) (by omega)
      rw [List.append_assoc, ih (u / 10) (by omega) _ (by omega)]
      simp only [List.singleton_append, Lib.parseUintM, e]
      rw [if_pos (by omega), if_neg (by omega), if_neg (by omega)]
      congr 1; omega

theorem parse_itoa {n : Int} (h0 : -9223372036854775808 ≤ n) (h1 : n ≤ 9223372036854775807) : Lib.parseIntB 64 (Lib.itoa n) = .ok n := by
  unfold Lib.itoa
  split
  · rename_i hn
    have e := parseM_digits (2 ^ 64 - 1) (by decide) n.natAbs [] (by omega)
    rw [List.append_nil] at e
    simp only [Lib.parseIntB, Lib.parseUintB]
    rw [if_pos (Or.inr (by decide)), if_neg (digits_ne _), e]
    simp only [Lib.parseUintM]
    rw [if_neg (by simp), if_neg (by simp; omega), if_pos (by decide)]
    congr 1; omega
  · rename_i hn
    have e := parseM_digits (2 ^ 64 - 1) (by decide) n.toNat [] (by omega)
    rw [List.append_nil] at e
    have hne := digits_ne n.toNat
    have hall := digits_all n.toNat
    cases hl : Lib.decDigits n.toNat with
    | nil => exact absurd hl hne
    | cons c r =>
      rw [hl] at e hall
      have hc := hall c (by simp)
      simp only [Lib.parseIntB, Lib.parseUintB]
      rw [if_neg (show ¬ (c.toNat = 43 ∨ c.toNat = 45) by omega), if_neg (by simp), e]
      simp only [Lib.parseUintM]
      rw [if_neg (by omega), if_neg (by omega), if_neg (by omega)]
      congr 1; omega

/-- The number that a word is: of 64 bits, as short as can be. -/
def numF (l : List UInt8) : Option Int :=
  match Lib.parseIntB 64 l with
  | .ok v => if Lib.itoa v = l then some v else none
  | _ => none

theorem num_itoa {n : Int} (h0 : -9223372036854775808 ≤ n) (h1 : n ≤ 9223372036854775807) : numF (Lib.itoa n) = some n := by
  simp [numF, parse_itoa h0 h1]
theorem num_nil : numF [] = none := by simp [numF, Lib.parseIntB]

theorem itoa_ne (n : Int) : Lib.itoa n ≠ [] := by
  unfold Lib.itoa; split
  · simp
  · exact digits_ne _

/-- A word: no blank, no semicolon. -/
def IsWord (l : List UInt8) : Prop := l ≠ [] ∧ ∀ c ∈ l, c ≠ 32 ∧ c ≠ 59

theorem itoa_word (n : Int) : IsWord (Lib.itoa n) := by
  refine ⟨itoa_ne n, fun c hc => ?_⟩
  have hd : ∀ u, ∀ c ∈ Lib.decDigits u, c ≠ 32 ∧ c ≠ 59 := fun u c hc => by
    have := digits_all u c hc
    constructor <;> (rintro rfl; simp at this)
  unfold Lib.itoa at hc
  split at hc
  · rcases List.mem_cons.1 hc with rfl | hc
    · decide
    · exact hd _ c hc
  · exact hd _ c hc

/-! ### Words -/

/-- A word that is none is left out. -/
def flush (cur : List UInt8) (ws : List (List UInt8)) : List (List UInt8) := if cur = [] then ws else cur :: ws
theorem flush_nil (ws : List (List UInt8)) : flush [] ws = ws := if_pos rfl

/-- What a text begins with: the rest of a word, the words behind it in its part, and the parts behind that. -/
def scan : List UInt8 → List UInt8 × List (List UInt8) × List (List (List UInt8))
  | [] => ([], [], [])
  | c :: r =>
    if c = 59 then ([], [], flush (scan r).1 (scan r).2.1 :: (scan r).2.2)
    else if c = 32 then ([], flush (scan r).1 (scan r).2.1, (scan r).2.2)
    else (c :: (scan r).1, (scan r).2.1, (scan r).2.2)

/-- The parts of a text, each as its words. -/
def lex (s : List UInt8) : List (List (List UInt8)) := flush (scan s).1 (scan s).2.1 :: (scan s).2.2

/-- The first word. -/
def wordF (s : List UInt8) : List UInt8 := (s.dropWhile (· == 32)).takeWhile (· != 32)
/-- What stands behind it. -/
def behindF (s : List UInt8) : List UInt8 := (s.dropWhile (· == 32)).dropWhile (· != 32)

theorem scan_blank (r : List UInt8) : scan (32 :: r) = ([], flush (scan r).1 (scan r).2.1, (scan r).2.2) := by
  rw [scan, if_neg (by decide), if_pos rfl]
theorem scan_semi (r : List UInt8) : scan (59 :: r) = ([], [], flush (scan r).1 (scan r).2.1 :: (scan r).2.2) := by
  rw [scan, if_pos rfl]
theorem scan_char {c : UInt8} (r : List UInt8) (h : c ≠ 32) (h' : c ≠ 59) : scan (c :: r) = (c :: (scan r).1, (scan r).2.1, (scan r).2.2) := by
  rw [scan, if_neg h', if_neg h]

theorem lex_blank (r : List UInt8) : lex (32 :: r) = lex r := by
  simp only [lex, scan_blank, flush_nil]
theorem lex_semi (r : List UInt8) : lex (59 :: r) = [] :: lex r := by
  simp only [lex, scan_semi, flush_nil]
theorem lex_nil : lex [] = [[]] := rfl

theorem lex_blanks (n : Nat) (r : List UInt8) : lex (List.replicate n 32 ++ r) = lex r := by
  induction n with
  | zero => rfl
  | succ n ih => rw [List.replicate_succ, List.cons_append, lex_blank, ih]

/-! ### More blanks -/

/-- k blanks ahead of each blank and each semicolon. -/
def spread (k : Nat) : List UInt8 → List UInt8
  | [] => []
  | c :: r => (if c = 32 ∨ c = 59 then List.replicate k 32 else []) ++ c :: spread k r

theorem scan_ahead {c : UInt8} (h : c = 32 ∨ c = 59) (k : Nat) (r : List UInt8) : scan (List.replicate k 32 ++ c :: r) = scan (c :: r) := by
  induction k with
  | zero => rfl
  | succ k ih =>
    rw [List.replicate_succ, List.cons_append, scan_blank, ih]
    rcases h with rfl | rfl
    · simp only [scan_blank, flush_nil]
    · simp only [scan_semi, flush_nil]

theorem scan_cons_congr {c : UInt8} {r t : List UInt8} (h : scan r = scan t) : scan (c :: r) = scan (c :: t) := by
  rw [scan, scan, h]

theorem scan_spread (k : Nat) (s : List UInt8) : scan (spread k s ++ [32]) = scan s := by
  induction s with
  | nil => rfl
  | cons c r ih =>
    rw [spread, List.append_assoc, List.cons_append]
    by_cases h : c = 32 ∨ c = 59
    · rw [if_pos h, scan_ahead h, scan_cons_congr ih]
    · rw [if_neg h, List.nil_append, scan_cons_congr ih]

/-- HOW IT IS LAID OUT DOES NOT MATTER. -/
theorem lex_spread (k : Nat) (s : List UInt8) : lex (32 :: 32 :: (spread k s ++ [32])) = lex s := by
  rw [lex_blank, lex_blank, lex, scan_spread, ← lex]

/-! ### Word by word, part by part -/

theorem scan_word {w : List UInt8} (hw : ∀ c ∈ w, c ≠ 32 ∧ c ≠ 59) (r : List UInt8) : scan (w ++ r) = (w ++ (scan r).1, (scan r).2.1, (scan r).2.2) := by
  induction w with
  | nil => rfl
  | cons c w ih =>
    obtain ⟨h1, h2⟩ := hw c (by simp)
    rw [List.cons_append, scan_char _ h1 h2, ih (fun d hd => hw d (by simp [hd]))]; rfl

/-- What ends a word. -/
def Ends (r : List UInt8) : Prop := r = [] ∨ ∃ c t, r = c :: t ∧ (c = 32 ∨ c = 59)

theorem scan_ends {r : List UInt8} (h : Ends r) : (scan r).1 = [] := by
  rcases h with rfl | ⟨c, t, rfl, rfl | rfl⟩
  · rfl
  · rw [scan_blank]
  · rw [scan_semi]

theorem lex_word {w r : List UInt8} (hw : IsWord w) (hr : Ends r) : lex (w ++ r) = (w :: (lex r).headD []) :: (lex r).tail := by
  have e := scan_ends hr
  simp only [lex, scan_word hw.2, e, List.append_nil, flush_nil, List.headD_cons, List.tail_cons]
  rw [flush, if_neg hw.1]

theorem takeWhile_all {p : UInt8 → Bool} {l : List UInt8} : ∀ c ∈ l.takeWhile p, p c = true := by
  induction l with
  | nil => intro c hc; cases hc
  | cons a l ih =>
    intro c hc
    rw [List.takeWhile_cons] at hc
    split at hc
    · rcases List.mem_cons.1 hc with rfl | hc
      · assumption
      · exact ih c hc
    · cases hc

theorem dropWhile_blank (s : List UInt8) : ∃ n, s = List.replicate n 32 ++ s.dropWhile (· == 32) := by
  induction s with
  | nil => exact ⟨0, rfl⟩
  | cons c r ih =>
    by_cases h : c = 32
    · subst h
      obtain ⟨n, hn⟩ := ih
      refine ⟨n + 1, ?_⟩
      rw [List.replicate_succ, List.cons_append, List.dropWhile_cons_of_pos (by decide)]
      rw [← hn]
    · exact ⟨0, by rw [List.dropWhile_cons_of_neg (by simpa using h)]; rfl⟩

theorem behind_ends (s : List UInt8) : behindF s = [] ∨ ∃ t, behindF s = 32 :: t := by
  unfold behindF
  generalize s.dropWhile (· == 32) = t
  induction t with
  | nil => exact .inl rfl
  | cons c r ih =>
    by_cases h : c = 32
    · subst h; exact .inr ⟨r, by rw [List.dropWhile_cons_of_neg (by decide)]⟩
    · rw [List.dropWhile_cons_of_pos (by simpa using h)]; exact ih

theorem cut_parts (s : List UInt8) : ∃ n, s = List.replicate n 32 ++ (wordF s ++ behindF s) := by
  obtain ⟨n, hn⟩ := dropWhile_blank s
  exact ⟨n, by rw [wordF, behindF, List.takeWhile_append_dropWhile]; exact hn⟩

/-- A text without semicolons. -/
def NoSemi (s : List UInt8) : Prop := ∀ c ∈ s, c ≠ 59

theorem NoSemi.word {s : List UInt8} (h : NoSemi s) : ∀ c ∈ wordF s, c ≠ 32 ∧ c ≠ 59 := by
  obtain ⟨n, hn⟩ := cut_parts s
  intro c hc
  refine ⟨?_, h c (by rw [hn]; simp [hc])⟩
  have := takeWhile_all c hc
  simpa using this
theorem NoSemi.behind {s : List UInt8} (h : NoSemi s) : NoSemi (behindF s) := by
  obtain ⟨n, hn⟩ := cut_parts s
  intro c hc
  exact h c (by rw [hn]; simp [hc])

/-- The words of a part. -/
def wordsP (s : List UInt8) : List (List UInt8) := (lex s).headD []

theorem lex_part {s : List UInt8} (h : NoSemi s) : (scan s).2.2 = [] := by
  induction s with
  | nil => rfl
  | cons c r ih =>
    have hc := h c (by simp)
    have e := ih (fun d hd => h d (by simp [hd]))
    by_cases h32 : c = 32
    · subst h32; rw [scan_blank, e]
    · rw [scan_char _ h32 hc, e]

/-- The first word, and the words behind it; none: there is none. -/
theorem words_cut {s : List UInt8} (h : NoSemi s) : (wordF s = [] ∧ wordsP s = []) ∨ (wordF s ≠ [] ∧ wordsP s = wordF s :: wordsP (behindF s)) := by
  obtain ⟨n, hn⟩ := cut_parts s
  have e : lex s = lex (wordF s ++ behindF s) := (congrArg lex hn).trans (lex_blanks n _)
  have hB : Ends (behindF s) := by
    rcases behind_ends s with h | ⟨t, h⟩
    · exact .inl h
    · exact .inr ⟨32, t, h, .inl rfl⟩
  by_cases h0 : wordF s = []
  · refine .inl ⟨h0, ?_⟩
    rw [wordsP, e, h0, List.nil_append]
    have : behindF s = [] := by
      rcases behind_ends s with hb | ⟨t, hb⟩
      · exact hb
      · exfalso
        have h1 : ∀ l : List UInt8, (l.dropWhile (· == 32)) ≠ 32 :: t := fun l => by
          induction l with
          | nil => simp
          | cons c r ih =>
            by_cases hc : c = 32
            · subst hc; rw [List.dropWhile_cons_of_pos (by decide)]; exact ih
            · rw [List.dropWhile_cons_of_neg (by simpa using hc)]; simp [hc]
        have h2 : s.dropWhile (· == 32) = 32 :: t := by
          have := List.takeWhile_append_dropWhile (p := (· != (32 : UInt8))) (l := s.dropWhile (· == 32))
          rw [← this]
          show wordF s ++ behindF s = _
          rw [h0, hb]; rfl
        exact h1 s h2
    rw [this]; rfl
  · refine .inr ⟨h0, ?_⟩
    rw [wordsP, e, lex_word ⟨h0, h.word⟩ hB]; rfl

/-- The first part, and what stands behind it. -/
def partF1 (s : List UInt8) : List UInt8 := s.takeWhile (· != 59)
def restF (s : List UInt8) : List UInt8 := (s.dropWhile (· != 59)).tail
def moreF (s : List UInt8) : Bool := s.any (· == 59)

theorem part_noSemi (s : List UInt8) : NoSemi (partF1 s) := fun c hc => by
  have := takeWhile_all c hc
  simpa using this

theorem scan_semi_app (a r : List UInt8) (ha : NoSemi a) : scan (a ++ 59 :: r) = ((scan a).1, (scan a).2.1, lex r) := by
  induction a with
  | nil => rw [List.nil_append, scan_semi]; rfl
  | cons c a ih =>
    have hc := ha c (by simp)
    have e := ih (fun d hd => ha d (by simp [hd]))
    rw [List.cons_append]
    by_cases h32 : c = 32
    · subst h32; simp only [scan_blank, e]
    · simp only [scan_char _ h32 hc, e]

theorem lex_app (a r : List UInt8) (ha : NoSemi a) : lex (a ++ 59 :: r) = wordsP a :: lex r := by
  rw [wordsP, lex, scan_semi_app a r ha, lex]; rfl

theorem lex_more {s : List UInt8} (h : moreF s = true) : lex s = wordsP (partF1 s) :: lex (restF s) := by
  have e : s = partF1 s ++ 59 :: restF s := by
    have h1 := List.takeWhile_append_dropWhile (p := (· != (59 : UInt8))) (l := s)
    have h2 : ∃ t, s.dropWhile (· != 59) = 59 :: t := by
      unfold moreF at h
      clear h1
      induction s with
      | nil => simp at h
      | cons c r ih =>
        by_cases hc : c = 59
        · subst hc; exact ⟨r, by rw [List.dropWhile_cons_of_neg (by decide)]⟩
        · rw [List.dropWhile_cons_of_pos (by simpa using hc)]
          exact ih (by simpa [hc] using h)
    obtain ⟨t, ht⟩ := h2
    rw [partF1, restF, ht, List.tail_cons, ← ht]; exact h1.symm
  conv => lhs; rw [e]
  exact lex_app _ _ (part_noSemi s)

theorem more_false {s : List UInt8} (h : moreF s = false) : NoSemi s := fun c hc => by
  unfold moreF at h
  rw [List.any_eq_false] at h
  simpa using h c hc
theorem part_last {s : List UInt8} (h : moreF s = false) : partF1 s = s := by
  have := more_false h
  unfold partF1
  induction s with
  | nil => rfl
  | cons c r ih =>
    have hc := this c (by simp)
    rw [List.takeWhile_cons_of_pos (by simpa using hc), ih (by simp [moreF] at h ⊢; exact h.2) (fun d hd => this d (by simp [hd]))]
theorem lex_last {s : List UInt8} (h : moreF s = false) : lex s = [wordsP (partF1 s)] := by
  rw [part_last h, wordsP, lex, lex_part (more_false h)]; rfl

/-- No word at all: blanks alone. -/
theorem blanks_word {s : List UInt8} : wordF s = [] ↔ ∀ c ∈ s, c = 32 := by
  unfold wordF
  induction s with
  | nil => simp
  | cons c r ih =>
    by_cases hc : c = 32
    · subst hc; rw [List.dropWhile_cons_of_pos (by decide), ih]; simp
    · rw [List.dropWhile_cons_of_neg (by simpa using hc), List.takeWhile_cons_of_pos (by simpa using hc)]
      simp [hc]
theorem blanks_lex {s : List UInt8} (h : ∀ c ∈ s, c = 32) : lex s = [[]] := by
  induction s with
  | nil => rfl
  | cons c r ih =>
    obtain rfl := h c (by simp)
    rw [lex_blank, ih (fun d hd => h d (by simp [hd]))]
theorem word_lex {s : List UInt8} (h : wordF s ≠ []) : lex s ≠ [[]] := by
  intro e
  rw [Ne, blanks_word] at h
  apply h
  clear h
  induction s with
  | nil => intro c hc; cases hc
  | cons c r ih =>
    by_cases h32 : c = 32
    · subst h32
      rw [lex_blank] at e
      intro d hd
      rcases List.mem_cons.1 hd with rfl | hd
      · rfl
      · exact ih e d hd
    · by_cases h59 : c = 59
      · subst h59; rw [lex_semi] at e; simp [lex] at e
      · rw [lex, scan_char _ h32 h59] at e; simp [flush] at e

/-! ### strings.Cut at a semicolon -/

theorem index_semi (c : UInt8) (r : List UInt8) : Lib.index (c :: r) [59] = if c = 59 then 0 else if Lib.index r [59] = -1 then -1 else Lib.index r [59] + 1 := by
  rw [Lib.index]
  by_cases h : c = 59
  · subst h; rw [if_pos (by simp [List.isPrefixOf]), if_pos rfl]
  · rw [if_neg (by simp [List.isPrefixOf]; exact fun e => h e.symm), if_neg h]
    simp only [beq_iff_eq]

theorem cut_semi (s : List UInt8) : Lib.cut s [59] = (partF1 s, restF s, moreF s) := by
  induction s with
  | nil => rfl
  | cons c r ih =>
    have hge := Lib.index_ge r [59]
    unfold Lib.cut at ih ⊢
    rw [index_semi]
    by_cases h : c = 59
    · subst h
      rw [if_pos rfl, if_pos (by decide)]
      simp [partF1, restF, moreF]
    · rw [if_neg h]
      by_cases h1 : Lib.index r [59] = -1
      · rw [if_pos h1, if_neg (by decide)]
        rw [h1, if_neg (by decide)] at ih
        injection ih with e1 e2
        injection e2 with e2 e3
        have t1 : (c != 59) = true := by simpa using h
        have t2 : (c == 59) = false := by simpa using h
        rw [partF1, restF, moreF, List.takeWhile_cons_of_pos (p := (· != (59 : UInt8))) t1, List.dropWhile_cons_of_pos (p := (· != (59 : UInt8))) t1, List.any_cons, t2, ← partF1, ← restF, ← moreF, ← e1, ← e2, ← e3]; rfl
      · rw [if_neg h1, if_pos (by omega)]
        rw [if_pos (by omega)] at ih
        injection ih with e1 e2
        injection e2 with e2 e3
        have t1 : (c != 59) = true := by simpa using h
        have t2 : (c == 59) = false := by simpa using h
        obtain ⟨n, hn⟩ : ∃ n : Nat, Lib.index r [59] = n := ⟨(Lib.index r [59]).toNat, by omega⟩
        rw [partF1, restF, moreF, List.takeWhile_cons_of_pos (p := (· != (59 : UInt8))) t1, List.dropWhile_cons_of_pos (p := (· != (59 : UInt8))) t1, List.any_cons, t2, ← partF1, ← restF, ← moreF, ← e1, ← e2, ← e3, hn]
        have : ((n : Int) + 1).toNat = n + 1 := by omega
        rw [this, Int.toNat_natCast]
        simp

theorem rest_shorter {s : List UInt8} (h : moreF s = true) : (restF s).length < s.length := by
  unfold moreF at h
  unfold restF
  induction s with
  | nil => simp at h
  | cons c r ih =>
    by_cases hc : c = 59
    · subst hc; rw [List.dropWhile_cons_of_neg (by decide)]; simp
    · rw [List.dropWhile_cons_of_pos (by simpa using hc)]
      have := ih (by simpa [hc] using h)
      rw [List.length_cons]; omega
theorem part_length (s : List UInt8) : (partF1 s).length ≤ s.length := (List.takeWhile_sublist _).length_le
theorem behind_length (s : List UInt8) : (behindF s).length ≤ s.length := ((List.dropWhile_sublist _).trans (List.dropWhile_sublist _)).length_le
theorem word_length (s : List UInt8) : (wordF s).length ≤ s.length := ((List.takeWhile_sublist _).trans (List.dropWhile_sublist _)).length_le
end Go.Proofs.YtehkjbpgibdgpadGreatDoor
namespace Go.Proofs.YtehkjbpgibdgpadGreatDoor

/-- The word of a kind. -/
def wordK : Nat → List UInt8
  | 1 => [110, 117, 109]
  | 2 => [108, 111, 97, 100]
  | 3 => [97, 100, 100]
  | 4 => [115, 117, 98]
  | 5 => [109, 117, 108]
  | 6 => [108, 101, 115, 115]
  | 7 => [115, 116, 111, 114, 101]
  | 8 => [115, 116, 111, 112]
  | 9 => [115, 107, 105, 112]
  | _ => []
/-- How many numbers stand behind it. -/
def manyK : Nat → Nat
  | 1 => 2 | 2 => 2 | 3 => 3 | 4 => 3 | 5 => 3 | 6 => 3 | 7 => 2 | 8 => 1 | 9 => 2
  | _ => 0

/-- The kind from k on whose word it is; 0: there is none. -/
def kindFrom (w : List UInt8) : Nat → Nat → Nat
  | 0, _ => 0
  | g + 1, k => if wordK k = w then k else kindFrom w g (k + 1)
def kindF (w : List UInt8) : Nat := kindFrom w 9 1

theorem kindF_range (w : List UInt8) : kindF w ≤ 9 := by
  simp only [kindF, kindFrom]
  repeat' split
  all_goals omega
theorem kindF_word {w : List UInt8} (h : kindF w ≠ 0) : wordK (kindF w) = w := by
  revert h
  simp only [kindF, kindFrom]
  repeat' split
  all_goals first | (intro h; assumption) | (intro h; exact absurd rfl h)
theorem kindF_nil : kindF [] = 0 := by decide
theorem kindF_wordK {k : Nat} (h1 : 1 ≤ k) (h9 : k ≤ 9) : kindF (wordK k) = k := by
  have : k = 1 ∨ k = 2 ∨ k = 3 ∨ k = 4 ∨ k = 5 ∨ k = 6 ∨ k = 7 ∨ k = 8 ∨ k = 9 := by omega
  rcases this with rfl | rfl | rfl | rfl | rfl | rfl | rfl | rfl | rfl <;> decide
theorem wordK_word {k : Nat} (h1 : 1 ≤ k) (h9 : k ≤ 9) : IsWord (wordK k) := by
  have : k = 1 ∨ k = 2 ∨ k = 3 ∨ k = 4 ∨ k = 5 ∨ k = 6 ∨ k = 7 ∨ k = 8 ∨ k = 9 := by omega
  unfold IsWord
  rcases this with rfl | rfl | rfl | rfl | rfl | rfl | rfl | rfl | rfl <;> decide
theorem wordK_length (k : Nat) : (wordK k).length ≤ 5 := by
  unfold wordK; split <;> decide
theorem manyK_le (k : Nat) : manyK k ≤ 3 := by
  unfold manyK; split <;> decide

/-- The three numbers of an operation. -/
def numsO (o : Op5) : List Int := if o.k = 1 then [o.a, o.n, 0] else [o.a, o.b, o.c]
/-- The operation of a kind that has these numbers. -/
def mkO (k : Nat) (x y z : Int) : Op5 := if k = 1 then ⟨1, x, 0, 0, y⟩ else ⟨k, x, y, z, 0⟩

/-- The words of an operation. -/
def wordsO (o : Op5) : List (List UInt8) := wordK o.k.toNat :: ((numsO o).take (manyK o.k.toNat)).map Lib.itoa

/-- The numbers that words are, one behind the other; none: one of them is none. -/
def numsW : List (List UInt8) → Option (List Int)
  | [] => some []
  | w :: r => match numF w, numsW r with
    | some n, some l => some (n :: l)
    | _, _ => none

/-- The operation that words are. -/
def opW (ws : List (List UInt8)) : Option Op5 :=
  match ws with
  | [] => none
  | w :: ns => if kindF w = 0 then none else if ns.length = manyK (kindF w) then (numsW ns).map fun l => mkO (kindF w) (l.getD 0 0) (l.getD 1 0) (l.getD 2 0) else none

/-- Numbers of 64 bits. -/
def I64 (n : Int) : Prop := -9223372036854775808 ≤ n ∧ n ≤ 9223372036854775807
def Op64 (o : Op5) : Prop := I64 o.k ∧ I64 o.a ∧ I64 o.b ∧ I64 o.c ∧ I64 o.n

theorem numsW_itoa {l : List Int} (h : ∀ n ∈ l, I64 n) : numsW (l.map Lib.itoa) = some l := by
  induction l with
  | nil => rfl
  | cons n l ih =>
    have hn := h n (by simp)
    simp only [List.map_cons, numsW, num_itoa hn.1 hn.2, ih (fun m hm => h m (by simp [hm]))]

theorem partF_zero9 {x l : Int} (h : partF x l = 0) (h0 : l = 0) : x = 0 := by
  unfold partF at h
  rw [if_pos h0] at h
  split at h
  · assumption
  · exact absurd h (by decide)

/-- AN OPERATION THERE AND BACK. -/
theorem opW_wordsO {o : Op5} (h : aloneF o = 0) (h64 : Op64 o) : opW (wordsO o) = some o := by
  obtain ⟨h1, h9⟩ := alone_kind h
  obtain ⟨k, a, b, c, n⟩ := o
  obtain ⟨-, ha, hb, hc, hn⟩ := h64
  dsimp only at h1 h9 ha hb hc hn
  obtain ⟨m, rfl⟩ : ∃ m : Nat, k = (m : Int) := ⟨k.toNat, by omega⟩
  have k0 := kindF_wordK (k := m) (by omega) (by omega)
  have hN : ¬ ((m : Int) < 1 ∨ 9 < (m : Int)) := by omega
  have hA : partF a (limF m 0) = 0 := by
    apply Decidable.byContradiction; intro e; exact e ((aloneF_a (o := ⟨m, a, b, c, n⟩) hN e).symm.trans h)
  have hB : partF b (limF m 1) = 0 := by
    apply Decidable.byContradiction; intro e; exact e ((aloneF_b (o := ⟨m, a, b, c, n⟩) hN hA e).symm.trans h)
  have hC : partF c (limF m 2) = 0 := by
    apply Decidable.byContradiction; intro e; exact e ((aloneF_c (o := ⟨m, a, b, c, n⟩) hN hA hB e).symm.trans h)
  have hE := (aloneF_n (o := ⟨m, a, b, c, n⟩) hN hA hB hC).symm.trans h
  dsimp only at hE
  have hz : (m : Int) ≠ 1 → n = 0 := fun hm => by
    apply Decidable.byContradiction; intro e; rw [if_pos ⟨e, hm⟩] at hE; exact absurd hE (by decide)
  have hNW : ∀ l : List Int, (∀ x ∈ l, I64 x) → numsW (l.map Lib.itoa) = some l := fun l hl => numsW_itoa hl
  have hm0 : m ≠ 0 := by omega
  have hlim : ∀ j, limF (m : Int) j = limF m j := fun _ => rfl
  simp only [wordsO, opW, Int.toNat_natCast, k0]
  rw [if_neg hm0]
  have : m = 1 ∨ m = 2 ∨ m = 3 ∨ m = 4 ∨ m = 5 ∨ m = 6 ∨ m = 7 ∨ m = 8 ∨ m = 9 := by omega
  rcases this with rfl | rfl | rfl | rfl | rfl | rfl | rfl | rfl | rfl
  · have b0 : b = 0 := partF_zero9 hB rfl
    have c0 : c = 0 := partF_zero9 hC rfl
    subst b0 c0
    have := hNW [a, n] (by simp [ha, hn])
    simp [numsO, manyK] at this ⊢
    rw [this]; simp [mkO]
  · have c0 : c = 0 := partF_zero9 hC rfl
    have n0 : n = 0 := hz (by decide)
    subst c0 n0
    have := hNW [a, b] (by simp [ha, hb])
    simp [numsO, manyK] at this ⊢
    rw [this]; simp [mkO]
  · have n0 : n = 0 := hz (by decide)
    subst n0
    have := hNW [a, b, c] (by simp [ha, hb, hc])
    simp [numsO, manyK] at this ⊢
    rw [this]; simp [mkO]
  · have n0 : n = 0 := hz (by decide)
    subst n0
    have := hNW [a, b, c] (by simp [ha, hb, hc])
    simp [numsO, manyK] at this ⊢
    rw [this]; simp [mkO]
  · have n0 : n = 0 := hz (by decide)
    subst n0
    have := hNW [a, b, c] (by simp [ha, hb, hc])
    simp [numsO, manyK] at this ⊢
    rw [this]; simp [mkO]
  · have n0 : n = 0 := hz (by decide)
    subst n0
    have := hNW [a, b, c] (by simp [ha, hb, hc])
    simp [numsO, manyK] at this ⊢
    rw [this]; simp [mkO]
  · have c0 : c = 0 := partF_zero9 hC rfl
    have n0 : n = 0 := hz (by decide)
    subst c0 n0
    have := hNW [a, b] (by simp [ha, hb])
    simp [numsO, manyK] at this ⊢
    rw [this]; simp [mkO]
  · have b0 : b = 0 := partF_zero9 hB rfl
    have c0 : c = 0 := partF_zero9 hC rfl
    have n0 : n = 0 := hz (by decide)
    subst b0 c0 n0
    have := hNW [a] (by simp [ha])
    simp [numsO, manyK] at this ⊢
    rw [this]; simp [mkO]
  · have c0 : c = 0 := partF_zero9 hC rfl
    have n0 : n = 0 := hz (by decide)
    subst c0 n0
    have := hNW [a, b] (by simp [ha, hb])
    simp [numsO, manyK] at this ⊢
    rw [this]; simp [mkO]

/-! ### Texts -/

/-- Numbers, each behind a blank. -/
def numsB : List Int → List UInt8
  | [] => []
  | n :: r => 32 :: (Lib.itoa n ++ numsB r)
/-- An operation's text. -/
def opB9 (o : Op5) : List UInt8 := wordK o.k.toNat ++ numsB ((numsO o).take (manyK o.k.toNat))
/-- Operations, each behind a semicolon and a blank. -/
def moreB : List Op5 → List UInt8
  | [] => []
  | o :: r => 59 :: 32 :: (opB9 o ++ moreB r)
/-- A deed's text. -/
def printB : List Op5 → List UInt8
  | [] => []
  | o :: r => opB9 o ++ moreB r

theorem moreB_append (a b : List Op5) : moreB (a ++ b) = moreB a ++ moreB b := by
  induction a with
  | nil => rfl
  | cons o a ih => simp [moreB, ih]
theorem numsB_append (a b : List Int) : numsB (a ++ b) = numsB a ++ numsB b := by
  induction a with
  | nil => rfl
  | cons o a ih => simp [numsB, ih]
theorem printB_snoc {d : List Op5} (h : d ≠ []) (o : Op5) : printB (d ++ [o]) = printB d ++ (59 :: 32 :: opB9 o) := by
  cases d with
  | nil => exact absurd rfl h
  | cons x r => simp [printB, moreB_append, moreB]

theorem numsB_ends (l : List Int) {r : List UInt8} (h : Ends r) : Ends (numsB l ++ r) := by
  cases l with
  | nil => exact h
  | cons n l => exact .inr ⟨32, _, rfl, .inl rfl⟩

theorem lex_nums (l : List Int) {r : List UInt8} (hr : Ends r) : lex (numsB l ++ r) = (l.map Lib.itoa ++ (lex r).headD []) :: (lex r).tail := by
  induction l with
  | nil => cases h : lex r with
    | nil => simp [lex] at h
    | cons x y => rw [numsB, List.nil_append, h]; rfl
  | cons n l ih =>
    rw [numsB, List.cons_append, lex_blank, List.append_assoc, lex_word (itoa_word n) (numsB_ends l hr), ih]; rfl

theorem lex_op {o : Op5} (h1 : 1 ≤ o.k) (h9 : o.k ≤ 9) {r : List UInt8} (hr : Ends r) : lex (opB9 o ++ r) = (wordsO o ++ (lex r).headD []) :: (lex r).tail := by
  rw [opB9, List.append_assoc, lex_word (wordK_word (by omega) (by omega)) (numsB_ends _ hr), lex_nums _ hr]; rfl

/-- Well made operations. -/
def Kinds (d : List Op5) : Prop := ∀ o ∈ d, 1 ≤ o.k ∧ o.k ≤ 9

theorem moreB_ends (d : List Op5) {r : List UInt8} (h : Ends r) : Ends (moreB d ++ r) := by
  cases d with
  | nil => exact h
  | cons o d => exact .inr ⟨59, _, rfl, .inr rfl⟩

theorem lex_more_ops {d : List Op5} (h : Kinds d) {r : List UInt8} (hr : r = [] ∨ ∃ t, r = 59 :: t) : lex (moreB d ++ r) = [] :: (d.map wordsO ++ (lex r).tail) := by
  have hE : Ends r := by
    rcases hr with h | ⟨t, h⟩
    · exact .inl h
    · exact .inr ⟨59, t, h, .inr rfl⟩
  have h0 : lex r = [] :: (lex r).tail := by
    rcases hr with rfl | ⟨t, rfl⟩
    · rfl
    · rw [lex_semi]; rfl
  induction d with
  | nil => rw [moreB, List.nil_append]; exact h0
  | cons o d ih =>
    have ho := h o (by simp)
    rw [moreB, List.cons_append, List.cons_append, lex_semi, lex_blank, List.append_assoc, lex_op ho.1 ho.2 (moreB_ends d hE), ih (fun x hx => h x (by simp [hx]))]
    simp

/-- THE WORDS OF A DEED's TEXT. -/
theorem lex_print {d : List Op5} (h : Kinds d) (h0 : d ≠ []) : lex (printB d) = d.map wordsO := by
  cases d with
  | nil => exact absurd rfl h0
  | cons o d =>
    have ho := h o (by simp)
    have := moreB_ends d (r := []) (.inl rfl)
    rw [List.append_nil] at this
    have e := lex_more_ops (d := d) (fun x hx => h x (by simp [hx])) (r := []) (.inl rfl)
    rw [List.append_nil] at e
    rw [printB, lex_op ho.1 ho.2 this, e]; simp [lex_nil]
/-- .. and of two of them, a semicolon between. -/
theorem lex_join {d e : List Op5} (hd : Kinds d) (he : Kinds e) (h0 : d ≠ []) (h1 : e ≠ []) : lex (printB d ++ (59 :: printB e)) = (d ++ e).map wordsO := by
  cases d with
  | nil => exact absurd rfl h0
  | cons o d =>
    have ho := hd o (by simp)
    have hr : (59 :: printB e : List UInt8) = [] ∨ ∃ t, (59 :: printB e : List UInt8) = 59 :: t := .inr ⟨_, rfl⟩
    have hE : Ends (59 :: printB e) := .inr ⟨59, _, rfl, .inr rfl⟩
    rw [printB, List.append_assoc, lex_op ho.1 ho.2 (moreB_ends d hE), lex_more_ops (fun x hx => hd x (by simp [hx])) hr, lex_semi, lex_print he h1]
    simp

/-! ### A text as a deed -/

/-- The operations of parts, from number i on; or the number of the first part that is none. -/
def partsF : Nat → List (List (List UInt8)) → Nat ⊕ List Op5
  | _, [] => .inr []
  | i, ws :: r => match opW ws with
    | none => .inl i
    | some o => match partsF (i + 1) r with
      | .inl k => .inl k
      | .inr d => .inr (o :: d)

/-- What a text is: a deed and the fault (0, 0), or none and its fault. -/
def parseF (s : List UInt8) : List Op5 × (Int × Int) :=
  if wordF s = [] then ([], (0, 0)) else
  match partsF 0 (lex s) with
  | .inl k => ([], (10, k))
  | .inr d => if (checkF d).1 ≠ 0 then ([], checkF d) else (d, (0, 0))

theorem partsF_words {d : List Op5} (h : ∀ o ∈ d, aloneF o = 0 ∧ Op64 o) (i : Nat) : partsF i (d.map wordsO) = .inr d := by
  induction d generalizing i with
  | nil => rfl
  | cons o d ih =>
    have ho := h o (by simp)
    simp only [List.map_cons, partsF, opW_wordsO ho.1 ho.2, ih (fun x hx => h x (by simp [hx]))]

theorem parse_lex {s : List UInt8} {d : List Op5} (hl : lex s = d.map wordsO) (h : ∀ o ∈ d, aloneF o = 0 ∧ Op64 o) : parseF s = if (checkF d).1 ≠ 0 then ([], checkF d) else (d, (0, 0)) := by
  unfold parseF
  rw [if_neg ?_]
  · rw [hl, partsF_words h]
  · intro e
    have e1 := blanks_lex (blanks_word.1 e)
    rw [e1] at hl
    cases d with
    | nil => simp at hl
    | cons o d => simp [wordsO] at hl

theorem alone_all {d : List Op5} (h : (checkF d).1 = 0) (h64 : ∀ o ∈ d, Op64 o) : ∀ o ∈ d, aloneF o = 0 ∧ Op64 o := fun o ho => ⟨checkF_alone h o ho, h64 o ho⟩
theorem kinds_all {d : List Op5} (h : (checkF d).1 = 0) : Kinds d := fun o ho => alone_kind (checkF_alone h o ho)

/-- THERE AND BACK, however it is laid out. -/
theorem parse_same {s : List UInt8} {d : List Op5} (h : (checkF d).1 = 0) (h64 : ∀ o ∈ d, Op64 o) (hs : lex s = lex (printB d)) : parseF s = (d, (0, 0)) := by
  by_cases h0 : d = []
  · subst h0
    have e : wordF s = [] := by
      apply Decidable.byContradiction; intro e; exact word_lex e (hs.trans rfl)
    rw [parseF, if_pos e]
  · rw [parse_lex (hs.trans (lex_print (kinds_all h) h0)) (alone_all h h64), if_neg (by simp [h])]
theorem parse_print {d : List Op5} (h : (checkF d).1 = 0) (h64 : ∀ o ∈ d, Op64 o) : parseF (printB d) = (d, (0, 0)) := parse_same h h64 rfl

/-- OPERATIONS BEHIND OPERATIONS. -/
theorem parse_join {d e : List Op5} (h : (checkF d).1 = 0) (h' : (checkF e).1 = 0) (h64 : ∀ o ∈ d, Op64 o) (k64 : ∀ o ∈ e, Op64 o) (h0 : d ≠ []) (h1 : e ≠ []) :
    parseF (printB d ++ (59 :: printB e)) = if (checkF (d ++ e)).1 ≠ 0 then ([], checkF (d ++ e)) else (d ++ e, (0, 0)) :=
  parse_lex (lex_join (kinds_all h) (kinds_all h') h0 h1) (fun o ho => by
    rcases List.mem_append.1 ho with ho | ho
    · exact alone_all h h64 o ho
    · exact alone_all h' k64 o ho)

/-- What is told as a deed is one. -/
theorem parse_checked {s : List UInt8} (h : (parseF s).2.1 = 0) : (checkF (parseF s).1).1 = 0 := by
  unfold parseF at h ⊢
  split
  · decide
  · rename_i hw
    rw [if_neg hw] at h
    split
    · rename_i k hk; rw [hk] at h; have h : (10 : Int) = 0 := h; exact absurd h (by decide)
    · rename_i d hd
      rw [hd] at h
      dsimp only at h
      split
      · rename_i hc; rw [if_pos hc] at h; exact absurd h hc
      · rename_i hc; exact Decidable.not_not.1 hc
theorem parse_fault {s : List UInt8} (h : (parseF s).2.1 ≠ 0) : (parseF s).1 = [] := by
  unfold parseF at h ⊢
  split
  · rfl
  · rename_i hw
    rw [if_neg hw] at h
    split
    · rfl
    · rename_i d hd
      rw [hd] at h
      dsimp only at h
      split
      · rfl
      · rename_i hc; rw [if_neg hc] at h; exact absurd rfl h

theorem numF_64 {l : List UInt8} {n : Int} (h : numF l = some n) : Lib.itoa n = l := by
  unfold numF at h
  split at h
  · split at h
    · rename_i e; injection h with h; subst h; exact e
    · cases h
  · cases h

/-! ### How long texts are -/

theorem itoa_le {n : Int} (h : I64 n) : (Lib.itoa n).length ≤ 21 := Lib.itoa_length_le n h.1 h.2
theorem numsB_length {l : List Int} (h : ∀ n ∈ l, I64 n) : (numsB l).length ≤ 22 * l.length := by
  induction l with
  | nil => simp [numsB]
  | cons n l ih =>
    have := itoa_le (h n (by simp))
    have := ih (fun m hm => h m (by simp [hm]))
    simp only [numsB, List.length_cons, List.length_append]; omega
theorem numsO_64 {o : Op5} (h : Op64 o) : ∀ n ∈ numsO o, I64 n := by
  intro n hn
  unfold numsO at hn
  have z : I64 0 := ⟨by decide, by decide⟩
  split at hn
  · simp only [List.mem_cons, List.not_mem_nil, or_false] at hn
    rcases hn with rfl | rfl | rfl
    · exact h.2.1
    · exact h.2.2.2.2
    · exact z
  · simp only [List.mem_cons, List.not_mem_nil, or_false] at hn
    rcases hn with rfl | rfl | rfl
    · exact h.2.1
    · exact h.2.2.1
    · exact h.2.2.2.1
theorem opB9_length {o : Op5} (h : Op64 o) : (opB9 o).length ≤ 71 := by
  have h1 := wordK_length o.k.toNat
  have h2 := numsB_length (l := (numsO o).take (manyK o.k.toNat)) (fun n hn => numsO_64 h n (List.mem_of_mem_take hn))
  have h3 : ((numsO o).take (manyK o.k.toNat)).length ≤ 3 := by
    rw [List.length_take]; have := manyK_le o.k.toNat; omega
  rw [opB9, List.length_append]; omega
theorem moreB_length {d : List Op5} (h : ∀ o ∈ d, Op64 o) : (moreB d).length ≤ 73 * d.length := by
  induction d with
  | nil => simp [moreB]
  | cons o d ih =>
    have := opB9_length (h o (by simp))
    have := ih (fun x hx => h x (by simp [hx]))
    simp only [moreB, List.length_cons, List.length_append]; omega
theorem printB_length {d : List Op5} (h : ∀ o ∈ d, Op64 o) : (printB d).length ≤ 73 * d.length := by
  cases d with
  | nil => simp [printB]
  | cons o d =>
    have := opB9_length (h o (by simp))
    have := moreB_length (d := d) (fun x hx => h x (by simp [hx]))
    simp only [printB, List.length_cons, List.length_append]; omega
theorem check_few_ops {d : List Op5} (h : (checkF d).1 = 0) : d.length ≤ 14 := by
  unfold checkF at h
  split at h
  · exact absurd h (by decide)
  · omega
theorem spread_length {k : Nat} (hk : k < 4) (s : List UInt8) : (spread k s).length ≤ 4 * s.length := by
  induction s with
  | nil => simp [spread]
  | cons c r ih =>
    rw [spread, List.length_append, List.length_cons, List.length_cons]
    split
    · rw [List.length_replicate]; omega
    · simp; omega
end Go.Proofs.YtehkjbpgibdgpadGreatDoor
