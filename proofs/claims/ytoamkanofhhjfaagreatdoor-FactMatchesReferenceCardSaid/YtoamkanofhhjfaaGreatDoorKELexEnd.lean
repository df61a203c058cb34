
/-
  The lexer in arithmetic: texts as lists of bytes; what the tokens of a text are, and how they are put together.
-/
namespace Go.Proofs.YtoamkanofhhjfaaGreatDoor.Lx

abbrev T := List UInt8
def isLetter (c : UInt8) : Bool := (97 ≤ c.toNat && c.toNat ≤ 122) || (65 ≤ c.toNat && c.toNat ≤ 90)
def isDigit (c : UInt8) : Bool := 48 ≤ c.toNat && c.toNat ≤ 57
def isWord (c : UInt8) : Bool := isLetter c || isDigit c || c == 95
def isBlank (c : UInt8) : Bool := c == 32 || c == 9 || c == 10
def isTwo (c : UInt8) : Bool := c == 33 || c == 60 || c == 62
def isOne (c : UInt8) : Bool := c == 59 || c == 44 || c == 46 || c == 58 || c == 40 || c == 41 || c == 91 || c == 93 || c == 123 || c == 125 || c == 61 || c == 60 || c == 62

/-- What follows the gaps at the beginning; the first argument: within a comment. -/
def skip : Bool → T → T
  | _, [] => []
  | true, c :: r => if c = 10 then skip false r else skip true r
  | false, c :: r => if isBlank c then skip false r else if c = 35 then skip true r else c :: r
def gaps (s : T) : Prop := skip false s = []
/-- A byte that begins a gap. -/
def isGap (c : UInt8) : Bool := isBlank c || c == 35

/-- The value of decimal digits. -/
def value (s : T) : Nat := s.foldl (fun n c => 10 * n + (c.toNat - 48)) 0

def headWord : T → Bool
  | [] => false
  | c :: _ => isWord c
def headEq : T → Bool
  | [] => false
  | c :: _ => c == 61

/-- A token at its place; kinds: 1 name, 2 number, 3 symbol. -/
structure Tok where
  kind : Nat
  text : T
  n : Nat
  at_ : Nat
inductive Nx where
  | tok (k : Nat) (t : T) (n : Nat)
  | err (e : Nat)
/-- The token that begins with a byte. -/
def next (c : UInt8) (r : T) : Nx :=
  if isLetter c then
    if (c :: r.takeWhile isWord).length ≤ 24 then .tok 1 (c :: r.takeWhile isWord) 0 else .err 2
  else if isDigit c then
    if (c :: r.takeWhile isDigit).length ≤ 7 ∧ headWord (r.dropWhile isDigit) = false then .tok 2 (c :: r.takeWhile isDigit) (value (c :: r.takeWhile isDigit)) else .err 4
  else if isTwo c && headEq r then .tok 3 [c, 61] 0
  else if isOne c then .tok 3 [c] 0
  else .err 3

def lexF : Nat → T → Nat → List Tok × Option (Nat × Nat)
  | 0, _, _ => ([], none)
  | f + 1, s, a =>
    match skip false s with
    | [] => ([], none)
    | c :: r =>
      match next c r with
      | .err e => ([], some (e, a + (s.length - (c :: r).length)))
      | .tok k t n =>
        let x := lexF f ((c :: r).drop t.length) (a + (s.length - (c :: r).length) + t.length)
        (⟨k, t, n, a + (s.length - (c :: r).length)⟩ :: x.1, x.2)
/-- The tokens of a text up to its end or its first error (without the limits on its length and on their number). -/
def lex (s : T) (a : Nat) : List Tok × Option (Nat × Nat) := lexF (s.length + 1) s a
/-- E1. -/
def full (s : T) : List Tok × Nat × Int :=
  if 20000 < s.length then ([], 2, -1)
  else
    let x := lex s 0
    if 5000 < x.1.length then ([], 2, (((x.1.map (·.at_)).getD 5000 0 : Nat) : Int))
    else match x.2 with
      | none => (x.1, 0, 0)
      | some (e, a) => ([], e, (a : Int))

/-! ### Bytes -/
theorem gap_word {c : UInt8} (h : isGap c = true) : isWord c = false ∧ (c == 61) = false := by
  unfold isGap isBlank at h
  simp only [Bool.or_eq_true, beq_iff_eq] at h
  rcases h with ((rfl | rfl) | rfl) | rfl <;> exact ⟨by decide, by decide⟩
theorem letter_nogap {c : UInt8} (h : isLetter c = true) : isGap c = false := by
  cases hg : isGap c with
  | false => rfl
  | true =>
    have := (gap_word hg).1
    unfold isWord at this
    rw [h] at this
    exact absurd this (by simp)
theorem digit_nogap {c : UInt8} (h : isDigit c = true) : isGap c = false := by
  cases hg : isGap c with
  | false => rfl
  | true =>
    have := (gap_word hg).1
    unfold isWord at this
    rw [h] at this
    exact absurd this (by simp)
theorem digit_noletter {c : UInt8} (h : isDigit c = true) : isLetter c = false := by
  unfold isDigit at h
  unfold isLetter
  simp only [Bool.and_eq_true, decide_eq_true_eq] at h
  rw [decide_eq_false (p := 97 ≤ c.toNat) (by omega), decide_eq_false (p := 65 ≤ c.toNat) (by omega)]; rfl
theorem digit_word {c : UInt8} (h : isDigit c = true) : isWord c = true := by unfold isWord; rw [h]; simp
theorem letter_word {c : UInt8} (h : isLetter c = true) : isWord c = true := by unfold isWord; rw [h]; simp
theorem two_plain {c : UInt8} (h : isTwo c = true) : isGap c = false ∧ isLetter c = false ∧ isDigit c = false := by
  unfold isTwo at h
  simp only [Bool.or_eq_true, beq_iff_eq] at h
  rcases h with (rfl | rfl) | rfl <;> exact ⟨by decide, by decide, by decide⟩
theorem one_plain {c : UInt8} (h : isOne c = true) : isGap c = false ∧ isLetter c = false ∧ isDigit c = false := by
  unfold isOne at h
  simp only [Bool.or_eq_true, beq_iff_eq] at h
  rcases h with (((((((((((rfl | rfl) | rfl) | rfl) | rfl) | rfl) | rfl) | rfl) | rfl) | rfl) | rfl) | rfl) | rfl <;> exact ⟨by decide, by decide, by decide⟩

/-! ### Gaps -/
theorem skip_gap {c : UInt8} (h : isGap c = false) (r : T) : skip false (c :: r) = c :: r := by
  unfold isGap at h
  rw [Bool.or_eq_false_iff] at h
  have h2 : c ≠ 35 := by simpa using h.2
  simp [skip, h.1, h2]
theorem skip_head : ∀ (b : Bool) (s : T) (c : UInt8) (r : T), skip b s = c :: r → isGap c = false
  | b, [], c, r, h => by cases b <;> simp [skip] at h
  | true, d :: s, c, r, h => by
    rw [skip] at h
    split at h
    · exact skip_head false s c r h
    · exact skip_head true s c r h
  | false, d :: s, c, r, h => by
    rw [skip] at h
    split at h
    · exact skip_head false s c r h
    · split at h
      · exact skip_head true s c r h
      · rename_i h1 h2
        cases h
        unfold isGap
        simp [h1, h2]
theorem skip_app : ∀ (b : Bool) (s x : T) (c : UInt8) (r : T), skip b s = c :: r → skip b (s ++ x) = c :: r ++ x
  | b, [], x, c, r, h => by cases b <;> simp [skip] at h
  | true, d :: s, x, c, r, h => by
    rw [skip] at h
    rw [List.cons_append, skip]
    split at h
    · rename_i h1; rw [if_pos h1]; exact skip_app false s x c r h
    · rename_i h1; rw [if_neg h1]; exact skip_app true s x c r h
  | false, d :: s, x, c, r, h => by
    rw [skip] at h
    rw [List.cons_append, skip]
    split at h
    · rename_i h1; rw [if_pos h1]; exact skip_app false s x c r h
    · rename_i h1
      rw [if_neg h1]
      split at h
      · rename_i h2; rw [if_pos h2]; exact skip_app true s x c r h
      · rename_i h2; rw [if_neg h2]; cases h; rfl
/-- What is skipped. -/
theorem skip_split : ∀ (b : Bool) (s : T) (c : UInt8) (r : T), skip b s = c :: r → ∃ p, s = p ++ c :: r ∧ skip b p = [] ∧ ∀ d y, isGap d = false → skip b (p ++ d :: y) = d :: y
  | b, [], c, r, h => by cases b <;> simp [skip] at h
  | true, d :: s, c, r, h => by
    rw [skip] at h
    split at h
    · rename_i h1
      obtain ⟨p, e, h2, h3⟩ := skip_split false s c r h
      exact ⟨d :: p, by rw [e]; rfl, by rw [skip, if_pos h1]; exact h2, fun x y hx => by rw [List.cons_append, skip, if_pos h1]; exact h3 x y hx⟩
    · rename_i h1
      obtain ⟨p, e, h2, h3⟩ := skip_split true s c r h
      exact ⟨d :: p, by rw [e]; rfl, by rw [skip, if_neg h1]; exact h2, fun x y hx => by rw [List.cons_append, skip, if_neg h1]; exact h3 x y hx⟩
  | false, d :: s, c, r, h => by
    rw [skip] at h
    split at h
    · rename_i h1
      obtain ⟨p, e, h2, h3⟩ := skip_split false s c r h
      exact ⟨d :: p, by rw [e]; rfl, by rw [skip, if_pos h1]; exact h2, fun x y hx => by rw [List.cons_append, skip, if_pos h1]; exact h3 x y hx⟩
    · rename_i h1
      split at h
      · rename_i h2
        obtain ⟨p, e, h3, h4⟩ := skip_split true s c r h
        exact ⟨d :: p, by rw [e]; rfl, by rw [skip, if_neg h1, if_pos h2]; exact h3, fun x y hx => by rw [List.cons_append, skip, if_neg h1, if_pos h2]; exact h4 x y hx⟩
      · cases h
        exact ⟨[], rfl, by simp [skip], fun x y hx => skip_gap hx y⟩
theorem skip_len (b : Bool) (s : T) : (skip b s).length ≤ s.length := by
  cases h : skip b s with
  | nil => exact Nat.zero_le _
  | cons c r =>
    obtain ⟨p, e, _⟩ := skip_split b s c r h
    rw [e, List.length_append]; omega

/-- A line feed ends every gap. -/
theorem skip_nl : ∀ (b : Bool) (g s : T), skip b g = [] → skip b (g ++ 10 :: s) = skip false s
  | true, [], s, _ => by rw [List.nil_append, skip, if_pos rfl]
  | false, [], s, _ => by rw [List.nil_append, skip, if_pos (by decide)]
  | true, d :: g, s, h => by
    rw [skip] at h
    rw [List.cons_append, skip]
    split at h
    · rename_i h1; rw [if_pos h1]; exact skip_nl false g s h
    · rename_i h1; rw [if_neg h1]; exact skip_nl true g s h
  | false, d :: g, s, h => by
    rw [skip] at h
    rw [List.cons_append, skip]
    split at h
    · rename_i h1; rw [if_pos h1]; exact skip_nl false g s h
    · rename_i h1
      rw [if_neg h1]
      split at h
      · rename_i h2; rw [if_pos h2]; exact skip_nl true g s h
      · cases h
/-- .. within a comment, too. -/
theorem skip_nl2 : ∀ (b : Bool) (g s : T), skip b g = [] → skip true (g ++ 10 :: s) = skip false s
  | b, [], s, _ => by rw [List.nil_append, skip, if_pos rfl]
  | true, g, s, h => skip_nl true g s h
  | false, d :: g, s, h => by
    by_cases hd : d = 10
    · subst hd
      rw [skip, if_pos (by decide)] at h
      rw [List.cons_append, skip, if_pos rfl]
      exact skip_nl false g s h
    · rw [skip] at h
      rw [List.cons_append, skip, if_neg hd]
      split at h
      · exact skip_nl2 false g s h
      · split at h
        · exact skip_nl2 true g s h
        · cases h
/-- Gaps and a line feed, behind gaps. -/
theorem skip_mid : ∀ (b : Bool) (p g s : T), skip b p = [] → skip false g = [] → skip b (p ++ (g ++ 10 :: s)) = skip false s
  | true, [], g, s, _, hg => skip_nl2 false g s hg
  | false, [], g, s, _, hg => skip_nl false g s hg
  | true, d :: p, g, s, h, hg => by
    rw [skip] at h
    rw [List.cons_append, skip]
    split at h
    · rename_i h1; rw [if_pos h1]; exact skip_mid false p g s h hg
    · rename_i h1; rw [if_neg h1]; exact skip_mid true p g s h hg
  | false, d :: p, g, s, h, hg => by
    rw [skip] at h
    rw [List.cons_append, skip]
    split at h
    · rename_i h1; rw [if_pos h1]; exact skip_mid false p g s h hg
    · rename_i h1
      rw [if_neg h1]
      split at h
      · rename_i h2; rw [if_pos h2]; exact skip_mid true p g s h hg
      · cases h
theorem gaps_head {g : T} (h : skip false g = []) (s : T) : ∃ x y, g ++ 10 :: s = x :: y ∧ isGap x = true := by
  cases g with
  | nil => exact ⟨10, s, rfl, by decide⟩
  | cons d g =>
    refine ⟨d, g ++ 10 :: s, rfl, ?_⟩
    cases hd : isGap d with
    | true => rfl
    | false => rw [skip_gap hd] at h; cases h
end Go.Proofs.YtoamkanofhhjfaaGreatDoor.Lx
/-
  Tokens: what is one, what may follow it; the tokens of texts that are put together.
-/
namespace Go.Proofs.YtoamkanofhhjfaaGreatDoor.Lx

/-! ### Lists -/
/-- No byte of a kind stands first. -/
def noHead (p : UInt8 → Bool) : T → Bool
  | [] => true
  | c :: _ => !p c
theorem take_sep (p : UInt8 → Bool) : ∀ (r x : T), noHead p x = true → (r ++ x).takeWhile p = r.takeWhile p
  | [], [], _ => rfl
  | [], c :: x, h => by simp [noHead] at h; simp [h]
  | d :: r, x, h => by
    rw [List.cons_append, List.takeWhile_cons, List.takeWhile_cons]
    rw [take_sep p r x h]
theorem drop_sep (p : UInt8 → Bool) : ∀ (r x : T), noHead p x = true → (r ++ x).dropWhile p = r.dropWhile p ++ x
  | [], [], _ => rfl
  | [], c :: x, h => by simp [noHead] at h; simp [h]
  | d :: r, x, h => by
    rw [List.cons_append, List.dropWhile_cons, List.dropWhile_cons]
    cases hd : p d with
    | true => simp only [if_true]; exact drop_sep p r x h
    | false => simp
theorem all_take (p : UInt8 → Bool) : ∀ r : T, (r.takeWhile p).all p = true
  | [] => rfl
  | d :: r => by
    rw [List.takeWhile_cons]
    cases hd : p d with
    | true => simp only [if_true, List.all_cons, hd, Bool.true_and]; exact all_take p r
    | false => rfl
theorem take_all (p : UInt8 → Bool) : ∀ r : T, r.all p = true → r.takeWhile p = r
  | [], _ => rfl
  | d :: r, h => by
    rw [List.all_cons, Bool.and_eq_true] at h
    rw [List.takeWhile_cons, h.1, if_pos rfl, take_all p r h.2]
theorem drop_all (p : UInt8 → Bool) : ∀ r : T, r.all p = true → r.dropWhile p = []
  | [], _ => rfl
  | d :: r, h => by
    rw [List.all_cons, Bool.and_eq_true] at h
    rw [List.dropWhile_cons, h.1, if_pos rfl]
    exact drop_all p r h.2
theorem head_drop (p : UInt8 → Bool) : ∀ r : T, noHead p (r.dropWhile p) = true
  | [] => rfl
  | d :: r => by
    rw [List.dropWhile_cons]
    cases hd : p d with
    | true => simp only [if_true]; exact head_drop p r
    | false => simp [noHead, hd]
theorem word_sep {x : T} (h : headWord x = false) : noHead isWord x = true := by
  cases x with
  | nil => rfl
  | cons c x => simpa [headWord, noHead] using h
theorem digit_sep {x : T} (h : headWord x = false) : noHead isDigit x = true := by
  cases x with
  | nil => rfl
  | cons c x =>
    cases hd : isDigit c with
    | false => simp [noHead, hd]
    | true =>
      have := digit_word hd
      simp only [headWord] at h
      rw [h] at this
      cases this

/-! ### One token -/
/-- What a token is. -/
def Good (k : Nat) (t : T) (n : Nat) : Prop :=
  (k = 1 ∧ n = 0 ∧ ∃ c r, t = c :: r ∧ isLetter c = true ∧ r.all isWord = true ∧ t.length ≤ 24) ∨
  (k = 2 ∧ n = value t ∧ ∃ c r, t = c :: r ∧ isDigit c = true ∧ r.all isDigit = true ∧ t.length ≤ 7) ∨
  (k = 3 ∧ n = 0 ∧ ((∃ c, t = [c, 61] ∧ isTwo c = true) ∨ ∃ c, t = [c] ∧ isOne c = true))
/-- What may follow it. -/
def stop : T → T → Bool
  | [], _ => true
  | c :: r, x => if isLetter c || isDigit c then !headWord x else if r.isEmpty && isTwo c then !headEq x else true

theorem stop_nil (t : T) : stop t [] = true := by
  cases t with
  | nil => rfl
  | cons c r => simp [stop, headWord, headEq]
theorem stop_pre (t a b : T) (h : stop t (a ++ b) = true) : stop t a = true := by
  cases a with
  | nil => exact stop_nil t
  | cons d a =>
    cases t with
    | nil => rfl
    | cons c r => simpa [stop, headWord, headEq] using h
theorem stop_gap (t : T) {c : UInt8} (h : isGap c = true) (x : T) : stop t (c :: x) = true := by
  cases t with
  | nil => rfl
  | cons d r =>
    obtain ⟨h1, h2⟩ := gap_word h
    simp only [stop, headWord, headEq, h1, h2]
    simp
/-- The same head, the same answer. -/
theorem stop_head (t : T) (c : UInt8) (a b : T) (h : stop t (c :: a) = true) : stop t (c :: b) = true := by
  cases t with
  | nil => rfl
  | cons d r => simpa [stop, headWord, headEq] using h

theorem Good.head {k : Nat} {t : T} {n : Nat} (h : Good k t n) : ∃ c r, t = c :: r ∧ isGap c = false := by
  rcases h with ⟨_, _, c, r, e, h1, _⟩ | ⟨_, _, c, r, e, h1, _⟩ | ⟨_, _, ⟨c, e, h1⟩ | ⟨c, e, h1⟩⟩
  · exact ⟨c, r, e, letter_nogap h1⟩
  · exact ⟨c, r, e, digit_nogap h1⟩
  · exact ⟨c, [61], e, (two_plain h1).1⟩
  · exact ⟨c, [], e, (one_plain h1).1⟩
theorem Good.pos {k : Nat} {t : T} {n : Nat} (h : Good k t n) : 0 < t.length := by
  obtain ⟨c, r, e, _⟩ := h.head
  rw [e]; simp
theorem Good.small {k : Nat} {t : T} {n : Nat} (h : Good k t n) : t.length ≤ 24 := by
  rcases h with ⟨_, _, c, r, e, _, _, h1⟩ | ⟨_, _, c, r, e, _, _, h1⟩ | ⟨_, _, ⟨c, e, h1⟩ | ⟨c, e, h1⟩⟩
  · exact h1
  · omega
  · rw [e]; simp
  · rw [e]; simp

/-- What next answers is a token, and what follows may follow it. -/
theorem next_tok {c : UInt8} {r : T} {k : Nat} {t : T} {n : Nat} (h : next c r = .tok k t n) : ∃ x, c :: r = t ++ x ∧ Good k t n ∧ stop t x = true := by
  unfold next at h
  split at h
  · rename_i hc
    split at h
    · rename_i hl
      cases h
      refine ⟨r.dropWhile isWord, by rw [List.cons_append, List.takeWhile_append_dropWhile], .inl ⟨rfl, rfl, c, _, rfl, hc, all_take _ _, hl⟩, ?_⟩
      have := head_drop isWord r
      simp only [stop, hc, Bool.true_or, if_true]
      cases hx : r.dropWhile isWord with
      | nil => rfl
      | cons d y => rw [hx] at this; simpa [headWord, noHead] using this
    · cases h
  · rename_i hc
    split at h
    · rename_i hd
      split at h
      · rename_i hl
        cases h
        refine ⟨r.dropWhile isDigit, by rw [List.cons_append, List.takeWhile_append_dropWhile], .inr (.inl ⟨rfl, rfl, c, _, rfl, hd, all_take _ _, hl.1⟩), ?_⟩
        simp [stop, hd, hl.2]
      · cases h
    · rename_i hd
      split at h
      · rename_i ht
        rw [Bool.and_eq_true] at ht
        cases h
        cases r with
        | nil => simp [headEq] at ht
        | cons d y =>
          have : d = 61 := by simpa [headEq] using ht.2
          subst this
          exact ⟨y, rfl, .inr (.inr ⟨rfl, rfl, .inl ⟨c, rfl, ht.1⟩⟩), by simp [stop, hc, hd]⟩
      · rename_i ht
        split at h
        · rename_i ho
          cases h
          refine ⟨r, rfl, .inr (.inr ⟨rfl, rfl, .inr ⟨c, rfl, ho⟩⟩), ?_⟩
          simp only [stop, hc, hd]
          cases h2 : isTwo c with
          | false => simp
          | true => rw [h2] at ht; simpa using ht
        · cases h
/-- A token with what may follow it is what next answers. -/
theorem next_good {k : Nat} {t : T} {n : Nat} (hg : Good k t n) {x : T} (hs : stop t x = true) {c : UInt8} {r : T} (e : t ++ x = c :: r) : next c r = .tok k t n := by
  rcases hg with ⟨rfl, rfl, d, y, rfl, h1, h2, h3⟩ | ⟨rfl, rfl, d, y, rfl, h1, h2, h3⟩ | ⟨rfl, rfl, ⟨d, rfl, h1⟩ | ⟨d, rfl, h1⟩⟩
  · obtain ⟨rfl, rfl⟩ := List.cons.inj (show _ :: (_ ++ x) = c :: r from e)
    simp only [stop, h1, Bool.true_or, if_true] at hs
    have hw : headWord x = false := by simpa using hs
    unfold next
    rw [take_sep _ _ _ (word_sep hw), take_all _ _ h2, if_pos h1, if_pos h3]
  · obtain ⟨rfl, rfl⟩ := List.cons.inj (show _ :: (_ ++ x) = c :: r from e)
    simp only [stop, h1, Bool.or_true, if_true] at hs
    have hw : headWord x = false := by simpa using hs
    unfold next
    rw [take_sep _ _ _ (digit_sep hw), drop_sep _ _ _ (digit_sep hw), take_all _ _ h2, drop_all _ _ h2, if_neg (by rw [digit_noletter h1]; decide), if_pos h1, if_pos ⟨h3, hw⟩]
  · obtain ⟨rfl, rfl⟩ := List.cons.inj (show _ :: (_ ++ x) = c :: r from e)
    obtain ⟨_, p2, p3⟩ := two_plain h1
    unfold next
    rw [p2, p3, h1]
    simp [headEq]
  · obtain ⟨rfl, rfl⟩ := List.cons.inj (show _ :: (_ ++ x) = c :: r from e)
    obtain ⟨_, p2, p3⟩ := one_plain h1
    simp only [stop, p2, p3] at hs
    unfold next
    rw [p2, p3, h1]
    cases h2 : isTwo d with
    | false => simp
    | true =>
      rw [h2] at hs
      have : headEq x = false := by simpa using hs
      simp [this]
/-- A gap behind changes nothing. -/
theorem next_ext (c : UInt8) (r : T) {x : UInt8} (hx : isGap x = true) (y : T) : next c (r ++ x :: y) = next c r := by
  obtain ⟨h1, h2⟩ := gap_word hx
  have hw : headWord (x :: y) = false := h1
  unfold next
  rw [take_sep _ _ _ (word_sep hw), take_sep _ _ _ (digit_sep hw), drop_sep _ _ _ (digit_sep hw)]
  have e1 : headWord (r.dropWhile isDigit ++ x :: y) = headWord (r.dropWhile isDigit) := by
    cases r.dropWhile isDigit with
    | nil => exact h1
    | cons d z => rfl
  have e2 : headEq (r ++ x :: y) = headEq r := by
    cases r with
    | nil => exact h2
    | cons d z => rfl
  rw [e1, e2]

/-! ### The tokens of a text -/
theorem lexF_more : ∀ (f g : Nat) (s : T) (a : Nat), s.length < f → s.length < g → lexF f s a = lexF g s a
  | 0, _, _, _, h, _ => absurd h (Nat.not_lt_zero _)
  | _, 0, _, _, _, h => absurd h (Nat.not_lt_zero _)
  | f + 1, g + 1, s, a, hf, hg => by
    rw [lexF, lexF]
    cases hs : skip false s with
    | nil => rfl
    | cons c r =>
      have hl := skip_len false s
      rw [hs] at hl
      cases hn : next c r with
      | err e => dsimp only; rw [hn]
      | tok k t n =>
        obtain ⟨x, e, hg2, _⟩ := next_tok hn
        have hp := hg2.pos
        have hl2 : ((c :: r).drop t.length).length < (c :: r).length := by rw [List.length_drop]; simp; omega
        dsimp only
        rw [hn]
        dsimp only
        rw [lexF_more f g ((c :: r).drop t.length) _ (by omega) (by omega)]
theorem lex_done {s : T} (h : skip false s = []) (a : Nat) : lex s a = ([], none) := by
  unfold lex; rw [lexF, h]
theorem lex_err {p : T} {c : UInt8} {r : T} {e : Nat} (h : skip false (p ++ c :: r) = c :: r) (hn : next c r = .err e) (a : Nat) : lex (p ++ c :: r) a = ([], some (e, a + p.length)) := by
  unfold lex; rw [lexF, h]
  dsimp only
  rw [hn]
  dsimp only
  rw [List.length_append, Nat.add_sub_cancel]
theorem lex_tok {p t x : T} {k n : Nat} (h : skip false (p ++ (t ++ x)) = t ++ x) (hg : Good k t n) (hs : stop t x = true) (a : Nat) :
    lex (p ++ (t ++ x)) a = (⟨k, t, n, a + p.length⟩ :: (lex x (a + p.length + t.length)).1, (lex x (a + p.length + t.length)).2) := by
  obtain ⟨c, r, e, _⟩ := hg.head
  have e2 : t ++ x = c :: (r ++ x) := by rw [e]; rfl
  have hn := next_good hg hs e2
  unfold lex
  rw [lexF, h]
  rw [e2]
  dsimp only
  rw [hn]
  dsimp only
  rw [← e2, List.length_append (as := p), Nat.add_sub_cancel, List.drop_left]
  rw [lexF_more (p.length + (t ++ x).length) (x.length + 1) x _ (by have := hg.pos; rw [List.length_append]; omega) (by omega)]

/-- The three cases of a text. -/
theorem lex_cases (s : T) : skip false s = [] ∨ (∃ p c r e, s = p ++ c :: r ∧ gaps p ∧ (∀ d y, isGap d = false → skip false (p ++ d :: y) = d :: y) ∧ isGap c = false ∧ next c r = .err e) ∨
    ∃ p t x k n, s = p ++ (t ++ x) ∧ gaps p ∧ (∀ d y, isGap d = false → skip false (p ++ d :: y) = d :: y) ∧ Good k t n ∧ stop t x = true := by
  cases h : skip false s with
  | nil => exact .inl rfl
  | cons c r =>
    obtain ⟨p, e, h1, h2⟩ := skip_split false s c r h
    have hc := skip_head false s c r h
    cases hn : next c r with
    | err er => exact .inr (.inl ⟨p, c, r, er, e, h1, h2, hc, hn⟩)
    | tok k t n =>
      obtain ⟨x, e2, hg, hs⟩ := next_tok hn
      exact .inr (.inr ⟨p, t, x, k, n, by rw [e, e2], h1, h2, hg, hs⟩)
theorem skip_tok {p t : T} {k n : Nat} (h : ∀ d y, isGap d = false → skip false (p ++ d :: y) = d :: y) (hg : Good k t n) (x : T) : skip false (p ++ (t ++ x)) = t ++ x := by
  obtain ⟨c, r, e, hc⟩ := hg.head
  rw [e]
  exact h c (r ++ x) hc

/-- The offsets move with the beginning. -/
def Tok.shift (d : Nat) (t : Tok) : Tok := ⟨t.kind, t.text, t.n, t.at_ + d⟩
theorem lex_shift (m : Nat) : ∀ (s : T), s.length ≤ m → ∀ (a d : Nat), lex s (a + d) = ((lex s a).1.map (Tok.shift d), (lex s a).2.map fun x => (x.1, x.2 + d)) := by
  induction m with
  | zero =>
    intro s hs a d
    have : s = [] := List.length_eq_zero_iff.1 (by omega)
    subst this
    rw [lex_done (by rfl), lex_done (by rfl)]; rfl
  | succ m ih =>
    intro s hs a d
    rcases lex_cases s with h | ⟨p, c, r, e, rfl, h1, h2, hc, hn⟩ | ⟨p, t, x, k, n, rfl, h1, h2, hg, hst⟩
    · rw [lex_done h, lex_done h]; rfl
    · rw [lex_err (h2 c r hc) hn, lex_err (h2 c r hc) hn]
      simp only [List.map_nil, Option.map_some]
      rw [show a + d + p.length = a + p.length + d by omega]
    · have hx : x.length ≤ m := by rw [List.length_append, List.length_append] at hs; have := hg.pos; omega
      rw [lex_tok (skip_tok h2 hg x) hg hst, lex_tok (skip_tok h2 hg x) hg hst, show a + d + p.length + t.length = a + p.length + t.length + d by omega, ih x hx]
      simp only [List.map_cons, Tok.shift]
      rw [show a + d + p.length = a + p.length + d by omega]
end Go.Proofs.YtoamkanofhhjfaaGreatDoor.Lx
/-
  The laws of the lexer, over the arithmetic.
-/
namespace Go.Proofs.YtoamkanofhhjfaaGreatDoor.Lx

theorem tok_len {m : Nat} {p t x : T} {k n : Nat} (hg : Good k t n) (h : (p ++ (t ++ x)).length ≤ m + 1) : x.length ≤ m := by
  rw [List.length_append, List.length_append] at h; have := hg.pos; omega

/-- Every token is one, and there are not more than bytes. -/
theorem lex_good (m : Nat) : ∀ s : T, s.length ≤ m → ∀ a, (∀ t ∈ (lex s a).1, Good t.kind t.text t.n) ∧ (lex s a).1.length ≤ s.length := by
  induction m with
  | zero =>
    intro s hs a
    have : s = [] := List.length_eq_zero_iff.1 (by omega)
    subst this
    rw [lex_done rfl]
    exact ⟨by simp, Nat.le_refl _⟩
  | succ m ih =>
    intro s hs a
    rcases lex_cases s with h | ⟨p, c, r, e, rfl, h1, h2, hc, hn⟩ | ⟨p, t, x, k, n, rfl, h1, h2, hg, hst⟩
    · rw [lex_done h]; exact ⟨by simp, Nat.zero_le _⟩
    · rw [lex_err (h2 c r hc) hn]; exact ⟨by simp, Nat.zero_le _⟩
    · rw [lex_tok (skip_tok h2 hg x) hg hst]
      have := ih x (tok_len hg hs) (a + p.length + t.length)
      refine ⟨fun y hy => ?_, ?_⟩
      · rcases List.mem_cons.1 hy with rfl | hy
        · exact hg
        · exact this.1 y hy
      · have h3 := this.2
        have h4 := hg.pos
        simp only [List.length_cons, List.length_append]
        omega
/-- An error stands within the text. -/
theorem lex_errAt (m : Nat) : ∀ s : T, s.length ≤ m → ∀ a x, (lex s a).2 = some x → a ≤ x.2 ∧ x.2 < a + s.length ∧ (x.1 = 2 ∨ x.1 = 3 ∨ x.1 = 4) := by
  induction m with
  | zero =>
    intro s hs a x hx
    have : s = [] := List.length_eq_zero_iff.1 (by omega)
    subst this
    rw [lex_done rfl] at hx
    cases hx
  | succ m ih =>
    intro s hs a y hy
    rcases lex_cases s with h | ⟨p, c, r, e, rfl, h1, h2, hc, hn⟩ | ⟨p, t, x, k, n, rfl, h1, h2, hg, hst⟩
    · rw [lex_done h] at hy; cases hy
    · rw [lex_err (h2 c r hc) hn] at hy
      cases hy
      refine ⟨by simp, by simp, ?_⟩
      unfold next at hn
      split at hn
      · split at hn
        · cases hn
        · cases hn; exact .inl rfl
      · split at hn
        · split at hn
          · cases hn
          · cases hn; exact .inr (.inr rfl)
        · split at hn
          · cases hn
          · split at hn
            · cases hn
            · cases hn; exact .inr (.inl rfl)
    · rw [lex_tok (skip_tok h2 hg x) hg hst] at hy
      obtain ⟨q1, q2, q3⟩ := ih x (tok_len hg hs) _ y hy
      rw [List.length_append, List.length_append]
      exact ⟨by omega, by omega, q3⟩

/-- P5.4, P5.6: two texts with gaps and a line feed between them. -/
theorem lex_mid (m : Nat) (g two : T) (hgp : gaps g) : ∀ s : T, s.length ≤ m → ∀ a,
    ((lex s a).2 = none → lex (s ++ (g ++ 10 :: two)) a = ((lex s a).1 ++ (lex two (a + s.length + (g.length + 1))).1, (lex two (a + s.length + (g.length + 1))).2)) ∧
    (∀ x, (lex s a).2 = some x → lex (s ++ (g ++ 10 :: two)) a = ((lex s a).1, some x)) := by
  have hend : ∀ (s : T), skip false s = [] → ∀ a, lex (s ++ (g ++ 10 :: two)) a = ((lex two (a + s.length + (g.length + 1))).1, (lex two (a + s.length + (g.length + 1))).2) := by
    intro s hs a
    have h := skip_mid false s g two hs hgp
    rcases lex_cases two with h0 | ⟨p, c, r, e, rfl, h1, h2, hc, hn⟩ | ⟨p, t, x, k, n, rfl, h1, h2, hg, hst⟩
    · rw [h0] at h
      rw [lex_done h, lex_done h0]
    · rw [h2 c r hc] at h
      have e2 : s ++ (g ++ 10 :: (p ++ c :: r)) = (s ++ (g ++ 10 :: p)) ++ c :: r := by simp
      rw [e2] at h ⊢
      rw [lex_err h hn, lex_err (h2 c r hc) hn]
      simp only [List.length_append, List.length_cons]
      rw [show a + (s.length + (g.length + (p.length + 1))) = a + s.length + (g.length + 1) + p.length by omega]
    · rw [skip_tok h2 hg x] at h
      have e2 : s ++ (g ++ 10 :: (p ++ (t ++ x))) = (s ++ (g ++ 10 :: p)) ++ (t ++ x) := by simp
      rw [e2] at h ⊢
      rw [lex_tok h hg hst, lex_tok (skip_tok h2 hg x) hg hst]
      simp only [List.length_append, List.length_cons]
      rw [show a + (s.length + (g.length + (p.length + 1))) = a + s.length + (g.length + 1) + p.length by omega]
  induction m with
  | zero =>
    intro s hs a
    have : s = [] := List.length_eq_zero_iff.1 (by omega)
    subst this
    rw [lex_done rfl]
    exact ⟨fun _ => hend [] rfl a, fun x hx => by cases hx⟩
  | succ m ih =>
    intro s hs a
    obtain ⟨x0, y0, e0, hx0⟩ := gaps_head hgp two
    rcases lex_cases s with h | ⟨p, c, r, e, rfl, h1, h2, hc, hn⟩ | ⟨p, t, x, k, n, rfl, h1, h2, hg, hst⟩
    · rw [lex_done h]
      exact ⟨fun _ => hend s h a, fun x hx => by cases hx⟩
    · rw [lex_err (h2 c r hc) hn]
      refine ⟨fun hx => (by cases hx), fun x hx => ?_⟩
      cases hx
      have e2 : (p ++ c :: r) ++ (g ++ 10 :: two) = p ++ c :: (r ++ (g ++ 10 :: two)) := by simp
      rw [e2, lex_err (h2 c _ hc) (by rw [e0, next_ext c r hx0 y0]; exact hn)]
    · have e2 : (p ++ (t ++ x)) ++ (g ++ 10 :: two) = p ++ (t ++ (x ++ (g ++ 10 :: two))) := by simp
      have hs2 : stop t (x ++ (g ++ 10 :: two)) = true := by
        cases x with
        | nil => rw [List.nil_append, e0]; exact stop_gap t hx0 y0
        | cons c x => exact stop_head t c x _ hst
      rw [lex_tok (skip_tok h2 hg x) hg hst, e2, lex_tok (skip_tok h2 hg _) hg hs2]
      obtain ⟨i1, i2⟩ := ih x (tok_len hg hs) (a + p.length + t.length)
      refine ⟨fun hx => ?_, fun y hy => ?_⟩
      · rw [i1 hx]
        simp only [List.length_append, List.cons_append]
        rw [show a + (p.length + (t.length + x.length)) + (g.length + 1) = a + p.length + t.length + x.length + (g.length + 1) by omega]
      · rw [i2 y hy]

/-- P5.5: the text before an error, and from there on. -/
theorem lex_upto (m : Nat) : ∀ s : T, s.length ≤ m → ∀ a e b, (lex s a).2 = some (e, b) → ∃ p q, s = p ++ q ∧ b = a + p.length ∧ q ≠ [] ∧ lex p a = ((lex s a).1, none) ∧ ∀ d, lex q d = ([], some (e, d)) := by
  induction m with
  | zero =>
    intro s hs a e b hx
    have : s = [] := List.length_eq_zero_iff.1 (by omega)
    subst this
    rw [lex_done rfl] at hx
    cases hx
  | succ m ih =>
    intro s hs a e b hx
    rcases lex_cases s with h | ⟨p, c, r, er, rfl, h1, h2, hc, hn⟩ | ⟨p, t, x, k, n, rfl, h1, h2, hg, hst⟩
    · rw [lex_done h] at hx; cases hx
    · rw [lex_err (h2 c r hc) hn] at hx ⊢
      cases hx
      refine ⟨p, c :: r, rfl, rfl, by simp, lex_done h1 a, fun d => ?_⟩
      have := lex_err (p := []) (skip_gap hc r) hn d
      simpa using this
    · rw [lex_tok (skip_tok h2 hg x) hg hst] at hx ⊢
      obtain ⟨p2, q, rfl, rfl, hq, h3, h4⟩ := ih x (tok_len hg hs) _ e b hx
      refine ⟨p ++ (t ++ p2), q, by simp, by simp only [List.length_append]; omega, hq, ?_, h4⟩
      rw [lex_tok (skip_tok h2 hg p2) hg (stop_pre t p2 q hst), h3]

/-- A text is cut behind a token. -/
theorem lex_cut (m : Nat) : ∀ s : T, s.length ≤ m → ∀ a (i : Nat) (y : Tok), (lex s a).1[i]? = some y → ∃ p q, s = p ++ q ∧ a + p.length = y.at_ + y.text.length ∧
    lex p a = ((lex s a).1.take (i + 1), none) ∧ lex q (a + p.length) = ((lex s a).1.drop (i + 1), (lex s a).2) := by
  induction m with
  | zero =>
    intro s hs a i y hx
    have : s = [] := List.length_eq_zero_iff.1 (by omega)
    subst this
    rw [lex_done rfl] at hx
    simp at hx
  | succ m ih =>
    intro s hs a i y hx
    rcases lex_cases s with h | ⟨p, c, r, er, rfl, h1, h2, hc, hn⟩ | ⟨p, t, x, k, n, rfl, h1, h2, hg, hst⟩
    · rw [lex_done h] at hx; simp at hx
    · rw [lex_err (h2 c r hc) hn] at hx; simp at hx
    · rw [lex_tok (skip_tok h2 hg x) hg hst] at hx ⊢
      cases i with
      | zero =>
        have : y = ⟨k, t, n, a + p.length⟩ := by simpa using hx.symm
        subst this
        refine ⟨p ++ (t ++ []), x, by simp, by simp only [List.length_append, List.length_nil]; omega, ?_, ?_⟩
        · rw [lex_tok (skip_tok h2 hg []) hg (stop_nil t), lex_done rfl]; rfl
        · simp only [List.append_nil, List.length_append]
          rw [show a + (p.length + t.length) = a + p.length + t.length by omega]
          rfl
      | succ i =>
        obtain ⟨p2, q, rfl, h3, h4, h5⟩ := ih x (tok_len hg hs) _ i y (by simpa using hx)
        refine ⟨p ++ (t ++ p2), q, by simp, by simp only [List.length_append]; omega, ?_, ?_⟩
        · rw [lex_tok (skip_tok h2 hg p2) hg (stop_pre t p2 q hst), h4]; rfl
        · simp only [List.length_append]
          rw [show a + (p.length + (t.length + p2.length)) = a + p.length + t.length + p2.length by omega, h5]
          rfl

/-- P5.2: where the tokens stand. -/
def Places : T → Nat → List Tok → Prop
  | s, _, [] => gaps s
  | s, a, t :: l => ∃ p x, s = p ++ (t.text ++ x) ∧ t.at_ = a + p.length ∧ gaps p ∧ Good t.kind t.text t.n ∧ Places x (t.at_ + t.text.length) l
theorem lex_places (m : Nat) : ∀ s : T, s.length ≤ m → ∀ a, (lex s a).2 = none → Places s a (lex s a).1 := by
  induction m with
  | zero =>
    intro s hs a _
    have : s = [] := List.length_eq_zero_iff.1 (by omega)
    subst this
    rw [lex_done rfl]
    exact rfl
  | succ m ih =>
    intro s hs a hx
    rcases lex_cases s with h | ⟨p, c, r, er, rfl, h1, h2, hc, hn⟩ | ⟨p, t, x, k, n, rfl, h1, h2, hg, hst⟩
    · rw [lex_done h]; exact h
    · rw [lex_err (h2 c r hc) hn] at hx; cases hx
    · rw [lex_tok (skip_tok h2 hg x) hg hst] at hx ⊢
      exact ⟨p, x, rfl, rfl, h1, hg, ih x (tok_len hg hs) _ hx⟩

/-- P5.3: the tokens, written with a blank after each. -/
def written : List Tok → T
  | [] => []
  | t :: l => t.text ++ 32 :: written l
/-- The same, apart from offsets. -/
def alike (a b : List Tok) : Prop := a.map (fun t => (t.kind, t.text, t.n)) = b.map fun t => (t.kind, t.text, t.n)
theorem lex_blank (s : T) (a : Nat) : lex (32 :: s) a = lex s (a + 1) := by
  have h0 : skip false (32 :: s) = skip false s := by rw [skip, if_pos (by decide)]
  rcases lex_cases s with h | ⟨p, c, r, er, rfl, h1, h2, hc, hn⟩ | ⟨p, t, x, k, n, rfl, h1, h2, hg, hst⟩
  · rw [lex_done h, lex_done (h0.trans h)]
  · have := lex_err (p := 32 :: p) (c := c) (r := r) (by rw [List.cons_append, h0]; exact h2 c r hc) hn a
    rw [List.cons_append] at this
    rw [this, lex_err (h2 c r hc) hn]
    simp only [List.length_cons]
    rw [show a + (p.length + 1) = a + 1 + p.length by omega]
  · have := lex_tok (p := 32 :: p) (t := t) (x := x) (by rw [List.cons_append, h0]; exact skip_tok h2 hg x) hg hst a
    rw [List.cons_append] at this
    rw [this, lex_tok (skip_tok h2 hg x) hg hst]
    simp only [List.length_cons]
    rw [show a + (p.length + 1) = a + 1 + p.length by omega]
theorem lex_written : ∀ (l : List Tok), (∀ t ∈ l, Good t.kind t.text t.n) → ∀ a, (lex (written l) a).2 = none ∧ alike l (lex (written l) a).1
  | [], _, a => by rw [written, lex_done rfl]; exact ⟨rfl, rfl⟩
  | t :: l, h, a => by
    have hg := h t (List.mem_cons_self ..)
    obtain ⟨i1, i2⟩ := lex_written l (fun u hu => h u (List.mem_cons_of_mem _ hu)) (a + 0 + t.text.length + 1)
    obtain ⟨c, r, e, hc⟩ := hg.head
    have := lex_tok (p := []) (t := t.text) (x := 32 :: written l) (by rw [List.nil_append, e]; exact skip_gap hc _) hg (stop_gap _ (by decide) _) a
    rw [List.nil_append] at this
    rw [written, this, lex_blank]
    refine ⟨i1, ?_⟩
    unfold alike at i2 ⊢
    rw [List.map_cons, List.map_cons, i2]; rfl

/-- P5.7: two tokens that follow each other directly. -/
theorem places_adjacent {s : T} {a : Nat} (i : Nat) {y z : Tok} (hy : (lex s a).1[i]? = some y) (hz : (lex s a).1[i + 1]? = some z) (he : y.at_ + y.text.length = z.at_) :
    Good y.kind y.text y.n ∧ Good z.kind z.text z.n ∧ stop y.text z.text = true := by
  obtain ⟨p, q, e1, e2, h1, h2⟩ := lex_cut s.length s (Nat.le_refl _) a i y hy
  have hgy := (lex_good s.length s (Nat.le_refl _) a).1 y (List.mem_of_getElem? hy)
  have hgz := (lex_good s.length s (Nat.le_refl _) a).1 z (List.mem_of_getElem? hz)
  refine ⟨hgy, hgz, ?_⟩
  have hq : (lex q (a + p.length)).1[0]? = some z := by rw [h2]; simpa using hz
  rcases lex_cases q with h | ⟨p2, c, r, er, rfl, _, h4, hc, hn⟩ | ⟨p2, t, x, k, n, rfl, _, h4, hg, hst⟩
  · rw [lex_done h] at hq; simp at hq
  · rw [lex_err (h4 c r hc) hn] at hq; simp at hq
  · rw [lex_tok (skip_tok h4 hg x) hg hst] at hq
    have : z = ⟨k, t, n, a + p.length + p2.length⟩ := by simpa using hq.symm
    subst this
    have hp2 : p2 = [] := List.length_eq_zero_iff.1 (by dsimp only at he; omega)
    subst hp2
    rw [List.nil_append] at e1
    -- the token y, and what follows it
    have key : ∀ (m : Nat) (s : T), s.length ≤ m → ∀ (a i : Nat), (lex s a).1[i]? = some y → ∀ w, s = w → ∃ u, (∃ v, w = v ++ (y.text ++ u) ∧ a + v.length = y.at_) ∧ stop y.text u = true := by
      intro m
      induction m with
      | zero =>
        intro s hs a i hx w _
        have : s = [] := List.length_eq_zero_iff.1 (by omega)
        subst this
        rw [lex_done rfl] at hx
        simp at hx
      | succ m ih =>
        intro s hs a i hx w hw
        subst hw
        rcases lex_cases s with h | ⟨p, c, r, er, rfl, h1, h2, hc, hn⟩ | ⟨p, t, x, k, n, rfl, h1, h2, hg, hst⟩
        · rw [lex_done h] at hx; simp at hx
        · rw [lex_err (h2 c r hc) hn] at hx; simp at hx
        · rw [lex_tok (skip_tok h2 hg x) hg hst] at hx
          cases i with
          | zero =>
            have : y = ⟨k, t, n, a + p.length⟩ := by simpa using hx.symm
            subst this
            exact ⟨x, ⟨p, rfl, rfl⟩, hst⟩
          | succ i =>
            obtain ⟨u, ⟨v, e, hv⟩, hs3⟩ := ih x (tok_len hg hs) _ i (by simpa using hx) x rfl
            exact ⟨u, ⟨p ++ (t ++ v), by rw [e]; simp, by rw [← hv]; simp only [List.length_append]; omega⟩, hs3⟩
    obtain ⟨u, ⟨v, e3, hv⟩, hs3⟩ := key s.length s (Nat.le_refl _) a i hy s rfl
    have hu : u = t ++ x := by
      have e4 : (v ++ y.text) ++ u = p ++ (t ++ x) := by rw [List.append_assoc, ← e3, e1]
      have hl : (v ++ y.text).length = p.length := by rw [List.length_append]; omega
      exact (List.append_inj e4 hl).2
    rw [hu] at hs3
    exact stop_pre _ _ _ hs3
theorem lex_two {y z : Tok} (hy : Good y.kind y.text y.n) (hz : Good z.kind z.text z.n) (hs : stop y.text z.text = true) (a : Nat) : (lex (y.text ++ z.text) a).2 = none → (lex (y.text ++ z.text) a).1.length ≠ 1 := by
  obtain ⟨c, r, e, hc⟩ := hy.head
  have := lex_tok (p := []) (t := y.text) (x := z.text) (by rw [List.nil_append, e]; exact skip_gap hc _) hy hs a
  rw [List.nil_append] at this
  rw [this]
  obtain ⟨c2, r2, e2, hc2⟩ := hz.head
  have hk : skip false z.text ≠ [] := by rw [e2, skip_gap hc2]; simp
  rcases lex_cases z.text with h | ⟨p, c, r, er, e3, h1, h2, hc, hn⟩ | ⟨p, t, x, k, n, e3, h1, h2, hg, hst⟩
  · exact absurd h hk
  · rw [e3, lex_err (h2 c r hc) hn]; intro h; cases h
  · rw [e3, lex_tok (skip_tok h2 hg x) hg hst]; intro _; simp
end Go.Proofs.YtoamkanofhhjfaaGreatDoor.Lx
/-
  The laws of the lexer as their functions ask: gaps put in, words and numbers, the examples, offsets into a text.
-/
namespace Go.Proofs.YtoamkanofhhjfaaGreatDoor.Lx

/-! ### Apart from offsets -/
def untag (t : Tok) : Nat × T × Nat := (t.kind, t.text, t.n)
theorem lex_any (s : T) (a : Nat) : (lex s a).1.map untag = (lex s 0).1.map untag ∧ (lex s a).2 = (lex s 0).2.map fun x => (x.1, x.2 + a) := by
  have := lex_shift s.length s (Nat.le_refl _) 0 a
  rw [Nat.zero_add] at this
  rw [this]
  exact ⟨by rw [List.map_map]; rfl, rfl⟩
theorem alike_iff (a b : List Tok) : alike a b ↔ a.map untag = b.map untag := Iff.rfl
theorem lex_none (s : T) (a : Nat) (h : (lex s 0).2 = none) : (lex s a).2 = none := by rw [(lex_any s a).2, h]; rfl
theorem alike_take {a b : List Tok} (h : alike a b) : a.length = b.length := by
  have := congrArg List.length h
  simpa using this

/-- P5.6. -/
theorem lex_gaps (g p q : T) (hg : gaps g) (hp : (lex p 0).2 = none) (hq : (lex q p.length).2 = none) (l : List Tok) (hl : l = (lex p 0).1 ++ (lex q p.length).1) (a : Nat) :
    (lex (g ++ 10 :: (p ++ (g ++ 10 :: (q ++ 10 :: g)))) a).2 = none ∧ alike l (lex (g ++ 10 :: (p ++ (g ++ 10 :: (q ++ 10 :: g)))) a).1 := by
  have e1 := ((lex_mid 0 g (p ++ (g ++ 10 :: (q ++ 10 :: g))) hg [] (Nat.le_refl _) a).1 (by rw [lex_done rfl]))
  rw [show lex ([] : T) a = ([], none) from lex_done rfl a, List.nil_append, List.nil_append] at e1
  rw [e1]
  obtain ⟨b, hb⟩ : ∃ b, b = a + ([] : T).length + (g.length + 1) := ⟨_, rfl⟩
  rw [← hb]
  have e2 := ((lex_mid p.length g (q ++ 10 :: g) hg p (Nat.le_refl _) b).1 (lex_none p b hp))
  rw [e2]
  obtain ⟨d, hd⟩ : ∃ d, d = b + p.length + (g.length + 1) := ⟨_, rfl⟩
  rw [← hd]
  have hq0 : (lex q 0).2 = none := by
    rw [(lex_any q p.length).2] at hq
    cases h : (lex q 0).2 with
    | none => rfl
    | some x => rw [h] at hq; cases hq
  have e3 := ((lex_mid q.length [] g rfl q (Nat.le_refl _) d).1 (lex_none q d hq0))
  rw [List.nil_append] at e3
  rw [e3, lex_done hg]
  refine ⟨rfl, ?_⟩
  rw [alike_iff, hl]
  simp only [List.map_append, List.append_nil]
  rw [(lex_any p b).1, (lex_any q d).1, (lex_any q p.length).1]

/-! ### Words and numbers -/
theorem good_name {s : T} (h : s.all isWord = true) (h0 : s ≠ []) (hl : s.length ≤ 24) (hc : ∀ c r, s = c :: r → isLetter c = true) : Good 1 s 0 := by
  cases s with
  | nil => exact absurd rfl h0
  | cons c r =>
    rw [List.all_cons, Bool.and_eq_true] at h
    exact .inl ⟨rfl, rfl, c, r, rfl, hc c r rfl, h.2, hl⟩
/-- Decimal digits. -/
def decF : Nat → Nat → T
  | 0, n => [UInt8.ofNat (48 + n)]
  | f + 1, n => if n < 10 then [UInt8.ofNat (48 + n)] else decF f (n / 10) ++ [UInt8.ofNat (48 + n % 10)]
def dec (n : Nat) : T := decF 6 n
theorem byte48 {n : Nat} (h : n < 10) : (UInt8.ofNat (48 + n)).toNat = 48 + n := by
  rw [UInt8.toNat_ofNat']; omega
theorem byte48_digit {n : Nat} (h : n < 10) : isDigit (UInt8.ofNat (48 + n)) = true := by
  unfold isDigit
  rw [byte48 h, decide_eq_true (show 48 ≤ 48 + n by omega), decide_eq_true (show 48 + n ≤ 57 by omega)]; rfl
theorem value_snoc (s : T) (c : UInt8) : value (s ++ [c]) = 10 * value s + (c.toNat - 48) := by unfold value; rw [List.foldl_append]; rfl
theorem decF_facts : ∀ (f n : Nat), n < 10 ^ (f + 1) → (decF f n).all isDigit = true ∧ (decF f n).length ≤ f + 1 ∧ value (decF f n) = n ∧ decF f n ≠ []
  | 0, n, h => by
    have h10 : n < 10 := by simpa using h
    rw [decF]
    refine ⟨by rw [List.all_cons, byte48_digit h10]; rfl, by simp, ?_, by simp⟩
    show 10 * 0 + ((UInt8.ofNat (48 + n)).toNat - 48) = n
    rw [byte48 h10]; omega
  | f + 1, n, h => by
    rw [decF]
    split
    · rename_i h10
      refine ⟨by rw [List.all_cons, byte48_digit h10]; rfl, by simp, ?_, by simp⟩
      show 10 * 0 + ((UInt8.ofNat (48 + n)).toNat - 48) = n
      rw [byte48 h10]; omega
    · have hm : n % 10 < 10 := Nat.mod_lt _ (by decide)
      obtain ⟨h1, h2, h3, h4⟩ := decF_facts f (n / 10) (by rw [Nat.pow_succ] at h; omega)
      refine ⟨?_, by rw [List.length_append]; simp; omega, ?_, by simp⟩
      · rw [List.all_append, h1, List.all_cons, byte48_digit hm]; rfl
      · rw [value_snoc, h3, byte48 hm]; omega
theorem good_dec {n : Nat} (h : n < 10000000) : Good 2 (dec n) n := by
  obtain ⟨h1, h2, h3, h4⟩ := decF_facts 6 n (by simpa using h)
  cases hd : dec n with
  | nil => exact absurd hd h4
  | cons c r =>
    unfold dec at hd
    rw [hd, List.all_cons, Bool.and_eq_true] at h1
    rw [hd] at h2 h3
    exact .inr (.inl ⟨rfl, h3.symm, c, r, rfl, h1.1, h1.2, h2⟩)
/-- P5.8: a name, a symbol of one byte, a number. -/
theorem lex_words {s : T} (hs : Good 1 s 0) {c : UInt8} (hc : isOne c = true) {n : Nat} (hn : n < 10000000) :
    lex (s ++ (c :: dec n)) 0 = ([⟨1, s, 0, 0⟩, ⟨3, [c], 0, s.length⟩, ⟨2, dec n, n, s.length + 1⟩], none) := by
  have hd := good_dec hn
  obtain ⟨b, r, e, hb⟩ := hs.head
  obtain ⟨d, y, e2, hd2⟩ := hd.head
  obtain ⟨p1, p2, p3⟩ := one_plain hc
  have hg : Good 3 [c] 0 := .inr (.inr ⟨rfl, rfl, .inr ⟨c, rfl, hc⟩⟩)
  have hdg : isDigit d = true := by
    rcases hd with ⟨h, _⟩ | ⟨_, _, c2, r2, e3, h1, _⟩ | ⟨h, _⟩
    · cases h
    · rw [e3] at e2; cases e2; exact h1
    · cases h
  have hw : isWord c = false := by
    unfold isOne at hc
    simp only [Bool.or_eq_true, beq_iff_eq] at hc
    rcases hc with (((((((((((rfl | rfl) | rfl) | rfl) | rfl) | rfl) | rfl) | rfl) | rfl) | rfl) | rfl) | rfl) | rfl <;> decide
  have h1 : stop s (c :: dec n) = true := by
    rcases hs with ⟨_, _, c2, r2, e3, g1, _⟩ | ⟨h, _⟩ | ⟨h, _⟩
    · rw [e3]
      simp only [stop, g1, Bool.true_or, if_true, headWord, hw]; rfl
    · cases h
    · cases h
  have h2 : stop [c] (dec n) = true := by
    rw [e2]
    simp only [stop, p2, p3, headEq]
    have : (d == 61) = false := by
      cases hx : d == 61 with
      | false => rfl
      | true => rw [beq_iff_eq] at hx; subst hx; exact absurd hdg (by decide)
    simp [this]
  have q1 := lex_tok (p := []) (t := s) (x := c :: dec n) (by rw [List.nil_append, e]; exact skip_gap hb _) hs h1 0
  have q2 := lex_tok (p := []) (t := [c]) (x := dec n) (by rw [List.nil_append, List.cons_append]; exact skip_gap p1 _) hg h2 (0 + ([] : T).length + s.length)
  have q3 := lex_tok (p := []) (t := dec n) (x := []) (by rw [List.nil_append, List.append_nil, e2]; exact skip_gap hd2 _) hd (stop_nil _) (0 + ([] : T).length + s.length + ([] : T).length + [c].length)
  rw [List.nil_append] at q1 q2 q3
  rw [List.append_nil] at q3
  rw [q1]
  rw [show c :: dec n = [c] ++ dec n from rfl, q2, q3, lex_done rfl]
  simp

/-! ### The examples -/
theorem head_row : lex [114, 111, 119, 32, 97, 49, 32, 97, 116, 32, 55, 62, 61, 120, 35, 32, 121] 0 =
    ([⟨1, [114, 111, 119], 0, 0⟩, ⟨1, [97, 49], 0, 4⟩, ⟨1, [97, 116], 0, 7⟩, ⟨2, [55], 7, 10⟩, ⟨3, [62, 61], 0, 11⟩, ⟨1, [120], 0, 13⟩], none) := by rfl
theorem head_char : lex [97, 32, 33, 98] 0 = ([⟨1, [97], 0, 0⟩], some (3, 2)) := by rfl
theorem head_num : lex [55, 120] 0 = ([], some (4, 0)) := by rfl
theorem head_long : lex [49, 50, 51, 52, 53, 54, 55, 56] 0 = ([], some (4, 0)) := by rfl
theorem head_name : lex [10, 97, 98, 99, 100, 101, 102, 103, 104, 105, 106, 107, 108, 109, 110, 111, 112, 113, 114, 115, 116, 117, 118, 119, 120, 121] 0 = ([], some (2, 1)) := by rfl

/-! ### Offsets into a text -/
/-- Where the gaps end that begin at an offset. -/
def gapEnd (s : T) (i : Nat) : Nat := s.length - (skip false (s.drop i)).length
theorem gapEnd_drop (s : T) (i : Nat) (hi : i ≤ s.length) : s.drop (gapEnd s i) = skip false (s.drop i) ∧ i ≤ gapEnd s i ∧ gapEnd s i ≤ s.length := by
  unfold gapEnd
  cases h : skip false (s.drop i) with
  | nil => exact ⟨by simp, by simpa using hi, by simp⟩
  | cons c r =>
    obtain ⟨p, e, _⟩ := skip_split false _ c r h
    have hl := congrArg List.length e
    rw [List.length_drop, List.length_append] at hl
    have e2 : s.length - (c :: r).length = i + p.length := by omega
    refine ⟨?_, by omega, by omega⟩
    rw [e2, ← List.drop_drop, e, List.drop_left]
theorem skip_at (s : T) (i : Nat) (hi : i < s.length) : s.drop i = s[i] :: s.drop (i + 1) := List.drop_eq_getElem_cons hi
theorem full_small {s : T} (h : s.length ≤ 5000) : full s = match (lex s 0).2 with | none => ((lex s 0).1, 0, 0) | some (e, a) => ([], e, (a : Int)) := by
  unfold full
  have := (lex_good s.length s (Nat.le_refl _) 0).2
  rw [if_neg (by omega)]
  dsimp only
  rw [if_neg (by omega)]
  all_goals (cases (lex s 0).2 <;> rfl)
end Go.Proofs.YtoamkanofhhjfaaGreatDoor.Lx
