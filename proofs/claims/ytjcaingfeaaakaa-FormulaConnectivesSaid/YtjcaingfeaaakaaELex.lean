/-
  The lexer in arithmetic: texts as lists of bytes; what the tokens of a text are, and how they are put together.
-/
namespace Go.Proofs.Ytjcaingfeaaakaa.Lx

abbrev T := List UInt8
def isLetter (c : UInt8) : Bool := (97 ≤ c.toNat && c.toNat ≤ 122) || (65 ≤ c.toNat && c.toNat ≤ 90)
def isDigit (c : UInt8) : Bool := 48 ≤ c.toNat && c.toNat ≤ 57
def isWord (c : UInt8) : Bool := isLetter c || isDigit c || c == 95
def isBlank (c : UInt8) : Bool := c == 32 || c == 9 || c == 10
def isTwo (c : UInt8) : Bool := c == 33 || c == 60 || c == 62
def isOne (c : UInt8) : Bool := c == 59 || c == 44 || c == 46 || c == 58 || c == 40 || c == 41 || c == 91 || c == 93 || c == 123 || c == 125 || c == 61 || c == 60 || c == 62

/-- What follows the gaps at the beginning; the first argument: within a comment. -/
def skip : Bool → T → T
  | _, [] => []
  | true, c :: r => if c = 10 then skip false r else skip true r
  | false, c :: r => if isBlank c then skip false r else if c = 35 then skip true r else c :: r
def gaps (s : T) : Prop := skip false s = []
/-- A byte that begins a gap. -/
def isGap (c : UInt8) : Bool := isBlank c || c == 35

/-- The value of decimal digits. -/
def value (s : T) : Nat := s.foldl (fun n c => 10 * n + (c.toNat - 48)) 0

def headWord : T → Bool
  | [] => false
  | c :: _ => isWord c
def headEq : T → Bool
  | [] => false
  | c :: _ => c == 61

/-- A token at its place; kinds: 1 name, 2 number, 3 symbol. -/
structure Tok where
  kind : Nat
  text : T
  n : Nat
  at_ : Nat
inductive Nx where
  | tok (k : Nat) (t : T) (n : Nat)
  | err (e : Nat)
/-- The token that begins with a byte. -/
def next (c : UInt8) (r : T) : Nx :=
  if isLetter c then
    if (c :: r.takeWhile isWord).length ≤ 24 then .tok 1 (c :: r.takeWhile isWord) 0 else .err 2
  else if isDigit c then
    if (c :: r.takeWhile isDigit).length ≤ 7 ∧ headWord (r.dropWhile isDigit) = false then .tok 2 (c :: r.takeWhile isDigit) (value (c :: r.takeWhile isDigit)) else .err 4
  else if isTwo c && headEq r then .tok 3 [c, 61] 0
  else if isOne c then .tok 3 [c] 0
  else .err 3

def lexF : Nat → T → Nat → List Tok × Option (Nat × Nat)
  | 0, _, _ => ([], none)
  | f + 1, s, a =>
    match skip false s with
    | [] => ([], none)
    | c :: r =>
      match next c r with
      | .err e => ([], some (e, a + (s.length - (c :: r).length)))
      | .tok k t n =>
        let x := lexF f ((c :: r).drop t.length) (a + (s.length - (c :: r).length) + t.length)
        (⟨k, t, n, a + (s.length - (c :: r).length)⟩ :: x.1, x.2)
/-- The tokens of a text up to its end or its first error (without the limits on its length and on their number). -/
def lex (s : T) (a : Nat) : List Tok × Option (Nat × Nat) := lexF (s.length + 1) s a
/-- E1. -/
def full (s : T) : List Tok × Nat × Int :=
  if 20000 < s.length then ([], 2, -1)
  else
    let x := lex s 0
    if 5000 < x.1.length then ([], 2, (((x.1.map (·.at_)).getD 5000 0 : Nat) : Int))
    else match x.2 with
      | none => (x.1, 0, 0)
      | some (e, a) => ([], e, (a : Int))

/-! ### Bytes -/
theorem gap_word {c : UInt8} (h : isGap c = true) : isWord c = false ∧ (c == 61) = false := by
  unfold isGap isBlank at h
  simp only [Bool.or_eq_true, beq_iff_eq] at h
  rcases h with ((rfl | rfl) | rfl) | rfl <;> exact ⟨by decide, by decide⟩
theorem letter_nogap {c : UInt8} (h : isLetter c = true) : isGap c = false := by
  cases hg : isGap c with
  | false => rfl
  | true =>
    have := (gap_word hg).1
    unfold isWord at this
    rw [h] at this
    exact absurd this (by simp)
theorem digit_nogap {c : UInt8} (h : isDigit c = true) : isGap c = false := by
  cases hg : isGap c with
  | false => rfl
  | true =>
    have := (gap_word hg).1
    unfold isWord at this
    rw [h] at this
    exact absurd this (by simp)
theorem digit_noletter {c : UInt8} (h : isDigit c = true) : isLetter c = false := by
  unfold isDigit at h
  unfold isLetter
  simp only [Bool.and_eq_true, decide_eq_true_eq] at h
  rw [decide_eq_false (p := 97 ≤ c.toNat) (by omega), decide_eq_false (p := 65 ≤ c.toNat) (by omega)]; rfl
theorem digit_word {c : UInt8} (h : isDigit c = true) : isWord c = true := by unfold isWord; rw [h]; simp
theorem letter_word {c : UInt8} (h : isLetter c = true) : isWord c = true := by unfold isWord; rw [h]; simp
theorem two_plain {c : UInt8} (h : isTwo c = true) : isGap c = false ∧ isLetter c = false ∧ isDigit c = false := by
  unfold isTwo at h
  simp only [Bool.or_eq_true, beq_iff_eq] at h
  rcases h with (rfl | rfl) | rfl <;> exact ⟨by decide, by decide, by decide⟩
theorem one_plain {c : UInt8} (h : isOne c = true) : isGap c = false ∧ isLetter c = false ∧ isDigit c = false := by
  unfold isOne at h
  simp only [Bool.or_eq_true, beq_iff_eq] at h
  rcases h with (((((((((((rfl | rfl) | rfl) | rfl) | rfl) | rfl) | rfl) | rfl) | rfl) | rfl) | rfl) | rfl) | rfl <;> exact ⟨by decide, by decide, by decide⟩

/-! ### Gaps -/
theorem skip_gap {c : UInt8} (h : isGap c = false) (r : T) : skip false (c :: r) = c :: r := by
  unfold isGap at h
  rw [Bool.or_eq_false_iff] at h
  have h2 : c ≠ 35 := by simpa using h.2
  simp [skip, h.1, h2]
theorem skip_head : ∀ (b : Bool) (s : T) (c : UInt8) (r : T), skip b s = c :: r → isGap c = false
  | b, [], c, r, h => by cases b <;> simp [skip] at h
  | true, d :: s, c, r, h => by
    rw [skip] at h
    split at h
    · exact skip_head false s c r h
    · exact skip_head true s c r h
  | false, d :: s, c, r, h => by
    rw [skip] at h
    split at h
    · exact skip_head false s c r h
    · split at h
      · exact skip_head true s c r h
      · rename_i h1 h2
        cases h
        unfold isGap
        simp [h1, h2]
theorem skip_app : ∀ (b : Bool) (s x : T) (c : UInt8) (r : T), skip b s = c :: r → skip b (s ++ x) = c :: r ++ x
  | b, [], x, c, r, h => by cases b <;> simp [skip] at h
  | true, d :: s, x, c, r, h => by
    rw [skip] at h
    rw [List.cons_append, skip]
    split at h
    · rename_i h1; rw [if_pos h1]; exact skip_app false s x c r h
    · rename_i h1; rw [if_neg h1]; exact skip_app true s x c r h
  | false, d :: s, x, c, r, h => by
    rw [skip] at h
    rw [List.cons_append, skip]
    split at h
    · rename_i h1; rw [if_pos h1]; exact skip_app false s x c r h
    · rename_i h1
      rw [if_neg h1]
      split at h
      · rename_i h2; rw [if_pos h2]; exact skip_app true s x c r h
      · rename_i h2; rw [if_neg h2]; cases h; rfl
/-- What is skipped. -/
theorem skip_split : ∀ (b : Bool) (s : T) (c : UInt8) (r : T), skip b s = c :: r → ∃ p, s = p ++ c :: r ∧ skip b p = [] ∧ ∀ d y, isGap d = false → skip b (p ++ d :: y) = d :: y
  | b, [], c, r, h => by cases b <;> simp [skip] at h
  | true, d :: s, c, r, h => by
    rw [skip] at h
    split at h
    · rename_i h1
      obtain ⟨p, e, h2, h3⟩ := skip_split false s c r h
      exact ⟨d :: p, by rw [e]; rfl, by rw [skip, if_pos h1]; exact h2, fun x y hx => by rw [List.cons_append, skip, if_pos h1]; exact h3 x y hx⟩
    · rename_i h1
      obtain ⟨p, e, h2, h3⟩ := skip_split true s c r h
      exact ⟨d :: p, by rw [e]; rfl, by rw [skip, if_neg h1]; exact h2, fun x y hx => by rw [List.cons_append, skip, if_neg h1]; exact h3 x y hx⟩
  | false, d :: s, c, r, h => by
    rw [skip] at h
    split at h
    · rename_i h1
      obtain ⟨p, e, h2, h3⟩ := skip_split false s c r h
      exact ⟨d :: p, by rw [e]; rfl, by rw [skip, if_pos h1]; exact h2, fun x y hx => by rw [List.cons_append, skip, if_pos h1]; exact h3 x y hx⟩
    · rename_i h1
      split at h
      · rename_i h2
        obtain ⟨p, e, h3, h4⟩ := skip_split true s c r h
        exact ⟨d :: p, by rw [e]; rfl, by rw [skip, if_neg h1, if_pos h2]; exact h3, fun x y hx => by rw [List.cons_append, skip, if_neg h1, if_pos h2]; exact h4 x y hx⟩
      · cases h
        exact ⟨[], rfl, by simp [skip], fun x y hx => skip_gap hx y⟩
theorem skip_len (b : Bool) (s : T) : (skip b s).length ≤ s.length := by
  cases h : skip b s with
  | nil => exact Nat.zero_le _
  | cons c r =>
    obtain ⟨p, e, _⟩ := skip_split b s c r h
    rw [e, List.length_append]; omega

/-- A line feed ends every gap. -/
theorem skip_nl : ∀ (b : Bool) (g s : T), skip b g = [] → skip b (g ++ 10 :: s) = skip false s
  | true, [], s, _ => by rw [List.nil_append, skip, if_pos rfl]
  | false, [], s, _ => by rw [List.nil_append, skip, if_pos (by decide)]
  | true, d :: g, s, h => by
    rw [skip] at h
    rw [List.cons_append, skip]
    split at h
    · rename_i h1; rw [if_pos h1]; exact skip_nl false g s h
    · rename_i h1; rw [if_neg h1]; exact skip_nl true g s h
  | false, d :: g, s, h => by
    rw [skip] at h
    rw [List.cons_append, skip]
    split at h
    · rename_i h1; rw [if_pos h1]; exact skip_nl false g s h
    · rename_i h1
      rw [if_neg h1]
      split at h
      · rename_i h2; rw [if_pos h2]; exact skip_nl true g s h
      · cases h
/-- .. within a comment, too. -/
theorem skip_nl2 : ∀ (b : Bool) (g s : T), skip b g = [] → skip true (g ++ 10 :: s) = skip false s
  | b, [], s, _ => by rw [List.nil_append, skip, if_pos rfl]
  | true, g, s, h => skip_nl true g s h
  | false, d :: g, s, h => by
    by_cases hd : d = 10
    · subst hd
      rw [skip, if_pos (by decide)] at h
      rw [List.cons_append, skip, if_pos rfl]
      exact skip_nl false g s h
    · rw [skip] at h
      rw [List.cons_append, skip, if_neg hd]
      split at h
      · exact skip_nl2 false g s h
      · split at h
        · exact skip_nl2 true g s h
        · cases h
/-- Gaps and a line feed, behind gaps. -/
theorem skip_mid : ∀ (b : Bool) (p g s : T), skip b p = [] → skip false g = [] → skip b (p ++ (g ++ 10 :: s)) = skip false s
  | true, [], g, s, _, hg => skip_nl2 false g s hg
  | false, [], g, s, _, hg => skip_nl false g s hg
  | true, d :: p, g, s, h, hg => by
    rw [skip] at h
    rw [List.cons_append, skip]
    split at h
    · rename_i h1; rw [if_pos h1]; exact skip_mid false p g s h hg
    · rename_i h1; rw [if_neg h1]; exact skip_mid true p g s h hg
  | false, d :: p, g, s, h, hg => by
    rw [skip] at h
    rw [List.cons_append, skip]
    split at h
    · rename_i h1; rw [if_pos h1]; exact skip_mid false p g s h hg
    · rename_i h1
      rw [if_neg h1]
      split at h
      · rename_i h2; rw [if_pos h2]; exact skip_mid true p g s h hg
      · cases h
theorem gaps_head {g : T} (h : skip false g = []) (s : T) : ∃ x y, g ++ 10 :: s = x :: y ∧ isGap x = true := by
  cases g with
  | nil => exact ⟨10, s, rfl, by decide⟩
  | cons d g =>
    refine ⟨d, g ++ 10 :: s, rfl, ?_⟩
    cases hd : isGap d with
    | true => rfl
    | false => rw [skip_gap hd] at h; cases h
end Go.Proofs.Ytjcaingfeaaakaa.Lx
