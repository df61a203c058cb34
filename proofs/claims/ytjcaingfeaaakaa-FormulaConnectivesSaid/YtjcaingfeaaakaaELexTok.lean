/-
  Tokens: what is one, what may follow it; the tokens of texts that are put together.
-/
import Derived.Test.YtjcaingfeaaakaaELex
namespace Go.Proofs.Ytjcaingfeaaakaa.Lx

/-! ### Lists -/
/-- No byte of a kind stands first. -/
def noHead (p : UInt8 → Bool) : T → Bool
  | [] => true
  | c :: _ => !p c
theorem take_sep (p : UInt8 → Bool) : ∀ (r x : T), noHead p x = true → (r ++ x).takeWhile p = r.takeWhile p
  | [], [], _ => rfl
  | [], c :: x, h => by simp [noHead] at h; simp [h]
  | d :: r, x, h => by
    rw [List.cons_append, List.takeWhile_cons, List.takeWhile_cons]
    rw [take_sep p r x h]
theorem drop_sep (p : UInt8 → Bool) : ∀ (r x : T), noHead p x = true → (r ++ x).dropWhile p = r.dropWhile p ++ x
  | [], [], _ => rfl
  | [], c :: x, h => by simp [noHead] at h; simp [h]
  | d :: r, x, h => by
    rw [List.cons_append, List.dropWhile_cons, List.dropWhile_cons]
    cases hd : p d with
    | true => simp only [if_true]; exact drop_sep p r x h
    | false => simp
theorem all_take (p : UInt8 → Bool) : ∀ r : T, (r.takeWhile p).all p = true
  | [] => rfl
  | d :: r => by
    rw [List.takeWhile_cons]
    cases hd : p d with
    | true => simp only [if_true, List.all_cons, hd, Bool.true_and]; exact all_take p r
    | false => rfl
theorem take_all (p : UInt8 → Bool) : ∀ r : T, r.all p = true → r.takeWhile p = r
  | [], _ => rfl
  | d :: r, h => by
    rw [List.all_cons, Bool.and_eq_true] at h
    rw [List.takeWhile_cons, h.1, if_pos rfl, take_all p r h.2]
theorem drop_all (p : UInt8 → Bool) : ∀ r : T, r.all p = true → r.dropWhile p = []
  | [], _ => rfl
  | d :: r, h => by
    rw [List.all_cons, Bool.and_eq_true] at h
    rw [List.dropWhile_cons, h.1, if_pos rfl]
    exact drop_all p r h.2
theorem head_drop (p : UInt8 → Bool) : ∀ r : T, noHead p (r.dropWhile p) = true
  | [] => rfl
  | d :: r => by
    rw [List.dropWhile_cons]
    cases hd : p d with
    | true => simp only [if_true]; exact head_drop p r
    | false => simp [noHead, hd]
theorem word_sep {x : T} (h : headWord x = false) : noHead isWord x = true := by
  cases x with
  | nil => rfl
  | cons c x => simpa [headWord, noHead] using h
theorem digit_sep {x : T} (h : headWord x = false) : noHead isDigit x = true := by
  cases x with
  | nil => rfl
  | cons c x =>
    cases hd : isDigit c with
    | false => simp [noHead, hd]
    | true =>
      have := digit_word hd
      simp only [headWord] at h
      rw [h] at this
      cases this

/-! ### One token -/
/-- What a token is. -/
def Good (k : Nat) (t : T) (n : Nat) : Prop :=
  (k = 1 ∧ n = 0 ∧ ∃ c r, t = c :: r ∧ isLetter c = true ∧ r.all isWord = true ∧ t.length ≤ 24) ∨
  (k = 2 ∧ n = value t ∧ ∃ c r, t = c :: r ∧ isDigit c = true ∧ r.all isDigit = true ∧ t.length ≤ 7) ∨
  (k = 3 ∧ n = 0 ∧ ((∃ c, t = [c, 61] ∧ isTwo c = true) ∨ ∃ c, t = [c] ∧ isOne c = true))
/-- What may follow it. -/
def stop : T → T → Bool
  | [], _ => true
  | c :: r, x => if isLetter c || isDigit c then !headWord x else if r.isEmpty && isTwo c then !headEq x else true

theorem stop_nil (t : T) : stop t [] = true := by
  cases t with
  | nil => rfl
  | cons c r => simp [stop, headWord, headEq]
theorem stop_pre (t a b : T) (h : stop t (a ++ b) = true) : stop t a = true := by
  cases a with
  | nil => exact stop_nil t
  | cons d a =>
    cases t with
    | nil => rfl
    | cons c r => simpa [stop, headWord, headEq] using h
theorem stop_gap (t : T) {c : UInt8} (h : isGap c = true) (x : T) : stop t (c :: x) = true := by
  cases t with
  | nil => rfl
  | cons d r =>
    obtain ⟨h1, h2⟩ := gap_word h
    simp only [stop, headWord, headEq, h1, h2]
    simp
/-- The same head, the same answer. -/
theorem stop_head (t : T) (c : UInt8) (a b : T) (h : stop t (c :: a) = true) : stop t (c :: b) = true := by
  cases t with
  | nil => rfl
  | cons d r => simpa [stop, headWord, headEq] using h

theorem Good.head {k : Nat} {t : T} {n : Nat} (h : Good k t n) : ∃ c r, t = c :: r ∧ isGap c = false := by
  rcases h with ⟨_, _, c, r, e, h1, _⟩ | ⟨_, _, c, r, e, h1, _⟩ | ⟨_, _, ⟨c, e, h1⟩ | ⟨c, e, h1⟩⟩
  · exact ⟨c, r, e, letter_nogap h1⟩
  · exact ⟨c, r, e, digit_nogap h1⟩
  · exact ⟨c, [61], e, (two_plain h1).1⟩
  · exact ⟨c, [], e, (one_plain h1).1⟩
theorem Good.pos {k : Nat} {t : T} {n : Nat} (h : Good k t n) : 0 < t.length := by
  obtain ⟨c, r, e, _⟩ := h.head
  rw [e]; simp
theorem Good.small {k : Nat} {t : T} {n : Nat} (h : Good k t n) : t.length ≤ 24 := by
  rcases h with ⟨_, _, c, r, e, _, _, h1⟩ | ⟨_, _, c, r, e, _, _, h1⟩ | ⟨_, _, ⟨c, e, h1⟩ | ⟨c, e, h1⟩⟩
  · exact h1
  · omega
  · rw [e]; simp
  · rw [e]; simp

/-- What next answers is a token, and what follows may follow it. -/
theorem next_tok {c : UInt8} {r : T} {k : Nat} {t : T} {n : Nat} (h : next c r = .tok k t n) : ∃ x, c :: r = t ++ x ∧ Good k t n ∧ stop t x = true := by
  unfold next at h
  split at h
  · rename_i hc
    split at h
    · rename_i hl
      cases h
      refine ⟨r.dropWhile isWord, by rw [List.cons_append, List.takeWhile_append_dropWhile], .inl ⟨rfl, rfl, c, _, rfl, hc, all_take _ _, hl⟩, ?_⟩
      have := head_drop isWord r
      simp only [stop, hc, Bool.true_or, if_true]
      cases hx : r.dropWhile isWord with
      | nil => rfl
      | cons d y => rw [hx] at this; simpa [headWord, noHead] using this
    · cases h
  · rename_i hc
    split at h
    · rename_i hd
      split at h
      · rename_i hl
        cases h
        refine ⟨r.dropWhile isDigit, by rw [List.cons_append, List.takeWhile_append_dropWhile], .inr (.inl ⟨rfl, rfl, c, _, rfl, hd, all_take _ _, hl.1⟩), ?_⟩
        simp [stop, hd, hl.2]
      · cases h
    · rename_i hd
      split at h
      · rename_i ht
        rw [Bool.and_eq_true] at ht
        cases h
        cases r with
        | nil => simp [headEq] at ht
        | cons d y =>
          have : d = 61 := by simpa [headEq] using ht.2
          subst this
          exact ⟨y, rfl, .inr (.inr ⟨rfl, rfl, .inl ⟨c, rfl, ht.1⟩⟩), by simp [stop, hc, hd]⟩
      · rename_i ht
        split at h
        · rename_i ho
          cases h
          refine ⟨r, rfl, .inr (.inr ⟨rfl, rfl, .inr ⟨c, rfl, ho⟩⟩), ?_⟩
          simp only [stop, hc, hd]
          cases h2 : isTwo c with
          | false => simp
          | true => rw [h2] at ht; simpa using ht
        · cases h
/-- A token with what may follow it is what next answers. -/
theorem next_good {k : Nat} {t : T} {n : Nat} (hg : Good k t n) {x : T} (hs : stop t x = true) {c : UInt8} {r : T} (e : t ++ x = c :: r) : next c r = .tok k t n := by
  rcases hg with ⟨rfl, rfl, d, y, rfl, h1, h2, h3⟩ | ⟨rfl, rfl, d, y, rfl, h1, h2, h3⟩ | ⟨rfl, rfl, ⟨d, rfl, h1⟩ | ⟨d, rfl, h1⟩⟩
  · obtain ⟨rfl, rfl⟩ := List.cons.inj (show _ :: (_ ++ x) = c :: r from e)
    simp only [stop, h1, Bool.true_or, if_true] at hs
    have hw : headWord x = false := by simpa using hs
    unfold next
    rw [take_sep _ _ _ (word_sep hw), take_all _ _ h2, if_pos h1, if_pos h3]
  · obtain ⟨rfl, rfl⟩ := List.cons.inj (show _ :: (_ ++ x) = c :: r from e)
    simp only [stop, h1, Bool.or_true, if_true] at hs
    have hw : headWord x = false := by simpa using hs
    unfold next
    rw [take_sep _ _ _ (digit_sep hw), drop_sep _ _ _ (digit_sep hw), take_all _ _ h2, drop_all _ _ h2, if_neg (by rw [digit_noletter h1]; decide), if_pos h1, if_pos ⟨h3, hw⟩]
  · obtain ⟨rfl, rfl⟩ := List.cons.inj (show _ :: (_ ++ x) = c :: r from e)
    obtain ⟨_, p2, p3⟩ := two_plain h1
    unfold next
    rw [p2, p3, h1]
    simp [headEq]
  · obtain ⟨rfl, rfl⟩ := List.cons.inj (show _ :: (_ ++ x) = c :: r from e)
    obtain ⟨_, p2, p3⟩ := one_plain h1
    simp only [stop, p2, p3] at hs
    unfold next
    rw [p2, p3, h1]
    cases h2 : isTwo d with
    | false => simp
    | true =>
      rw [h2] at hs
      have : headEq x = false := by simpa using hs
      simp [this]
/-- A gap behind changes nothing. -/
theorem next_ext (c : UInt8) (r : T) {x : UInt8} (hx : isGap x = true) (y : T) : next c (r ++ x :: y) = next c r := by
  obtain ⟨h1, h2⟩ := gap_word hx
  have hw : headWord (x :: y) = false := h1
  unfold next
  rw [take_sep _ _ _ (word_sep hw), take_sep _ _ _ (digit_sep hw), drop_sep _ _ _ (digit_sep hw)]
  have e1 : headWord (r.dropWhile isDigit ++ x :: y) = headWord (r.dropWhile isDigit) := by
    cases r.dropWhile isDigit with
    | nil => exact h1
    | cons d z => rfl
  have e2 : headEq (r ++ x :: y) = headEq r := by
    cases r with
    | nil => exact h2
    | cons d z => rfl
  rw [e1, e2]

/-! ### The tokens of a text -/
theorem lexF_more : ∀ (f g : Nat) (s : T) (a : Nat), s.length < f → s.length < g → lexF f s a = lexF g s a
  | 0, _, _, _, h, _ => absurd h (Nat.not_lt_zero _)
  | _, 0, _, _, _, h => absurd h (Nat.not_lt_zero _)
  | f + 1, g + 1, s, a, hf, hg => by
    rw [lexF, lexF]
    cases hs : skip false s with
    | nil => rfl
    | cons c r =>
      have hl := skip_len false s
      rw [hs] at hl
      cases hn : next c r with
      | err e => dsimp only; rw [hn]
      | tok k t n =>
        obtain ⟨x, e, hg2, _⟩ := next_tok hn
        have hp := hg2.pos
        have hl2 : ((c :: r).drop t.length).length < (c :: r).length := by rw [List.length_drop]; simp; omega
        dsimp only
        rw [hn]
        dsimp only
        rw [lexF_more f g ((c :: r).drop t.length) _ (by omega) (by omega)]
theorem lex_done {s : T} (h : skip false s = []) (a : Nat) : lex s a = ([], none) := by
  unfold lex; rw [lexF, h]
theorem lex_err {p : T} {c : UInt8} {r : T} {e : Nat} (h : skip false (p ++ c :: r) = c :: r) (hn : next c r = .err e) (a : Nat) : lex (p ++ c :: r) a = ([], some (e, a + p.length)) := by
  unfold lex; rw [lexF, h]
  dsimp only
  rw [hn]
  dsimp only
  rw [List.length_append, Nat.add_sub_cancel]
theorem lex_tok {p t x : T} {k n : Nat} (h : skip false (p ++ (t ++ x)) = t ++ x) (hg : Good k t n) (hs : stop t x = true) (a : Nat) :
    lex (p ++ (t ++ x)) a = (⟨k, t, n, a + p.length⟩ :: (lex x (a + p.length + t.length)).1, (lex x (a + p.length + t.length)).2) := by
  obtain ⟨c, r, e, _⟩ := hg.head
  have e2 : t ++ x = c :: (r ++ x) := by rw [e]; rfl
  have hn := next_good hg hs e2
  unfold lex
  rw [lexF, h]
  rw [e2]
  dsimp only
  rw [hn]
  dsimp only
  rw [← e2, List.length_append (as := p), Nat.add_sub_cancel, List.drop_left]
  rw [lexF_more (p.length + (t ++ x).length) (x.length + 1) x _ (by have := hg.pos; rw [List.length_append]; omega) (by omega)]

/-- The three cases of a text. -/
theorem lex_cases (s : T) : skip false s = [] ∨ (∃ p c r e, s = p ++ c :: r ∧ gaps p ∧ (∀ d y, isGap d = false → skip false (p ++ d :: y) = d :: y) ∧ isGap c = false ∧ next c r = .err e) ∨
    ∃ p t x k n, s = p ++ (t ++ x) ∧ gaps p ∧ (∀ d y, isGap d = false → skip false (p ++ d :: y) = d :: y) ∧ Good k t n ∧ stop t x = true := by
  cases h : skip false s with
  | nil => exact .inl rfl
  | cons c r =>
    obtain ⟨p, e, h1, h2⟩ := skip_split false s c r h
    have hc := skip_head false s c r h
    cases hn : next c r with
    | err er => exact .inr (.inl ⟨p, c, r, er, e, h1, h2, hc, hn⟩)
    | tok k t n =>
      obtain ⟨x, e2, hg, hs⟩ := next_tok hn
      exact .inr (.inr ⟨p, t, x, k, n, by rw [e, e2], h1, h2, hg, hs⟩)
theorem skip_tok {p t : T} {k n : Nat} (h : ∀ d y, isGap d = false → skip false (p ++ d :: y) = d :: y) (hg : Good k t n) (x : T) : skip false (p ++ (t ++ x)) = t ++ x := by
  obtain ⟨c, r, e, hc⟩ := hg.head
  rw [e]
  exact h c (r ++ x) hc

/-- The offsets move with the beginning. -/
def Tok.shift (d : Nat) (t : Tok) : Tok := ⟨t.kind, t.text, t.n, t.at_ + d⟩
theorem lex_shift (m : Nat) : ∀ (s : T), s.length ≤ m → ∀ (a d : Nat), lex s (a + d) = ((lex s a).1.map (Tok.shift d), (lex s a).2.map fun x => (x.1, x.2 + d)) := by
  induction m with
  | zero =>
    intro s hs a d
    have : s = [] := List.length_eq_zero_iff.1 (by omega)
    subst this
    rw [lex_done (by rfl), lex_done (by rfl)]; rfl
  | succ m ih =>
    intro s hs a d
    rcases lex_cases s with h | ⟨p, c, r, e, rfl, h1, h2, hc, hn⟩ | ⟨p, t, x, k, n, rfl, h1, h2, hg, hst⟩
    · rw [lex_done h, lex_done h]; rfl
    · rw [lex_err (h2 c r hc) hn, lex_err (h2 c r hc) hn]
      simp only [List.map_nil, Option.map_some]
      rw [show a + d + p.length = a + p.length + d by omega]
    · have hx : x.length ≤ m := by rw [List.length_append, List.length_append] at hs; have := hg.pos; omega
      rw [lex_tok (skip_tok h2 hg x) hg hst, lex_tok (skip_tok h2 hg x) hg hst, show a + d + p.length + t.length = a + p.length + t.length + d by omega, ih x hx]
      simp only [List.map_cons, Tok.shift]
      rw [show a + d + p.length = a + p.length + d by omega]
end Go.Proofs.Ytjcaingfeaaakaa.Lx
