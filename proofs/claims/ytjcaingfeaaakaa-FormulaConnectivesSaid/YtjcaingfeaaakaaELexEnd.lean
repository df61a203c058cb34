/-
  The laws of the lexer as their functions ask: gaps put in, words and numbers, the examples, offsets into a text.
-/
import Derived.Test.YtjcaingfeaaakaaELexAll
namespace Go.Proofs.Ytjcaingfeaaakaa.Lx

/-! ### Apart from offsets -/
def untag (t : Tok) : Nat × T × Nat := (t.kind, t.text, t.n)
theorem lex_any (s : T) (a : Nat) : (lex s a).1.map untag = (lex s 0).1.map untag ∧ (lex s a).2 = (lex s 0).2.map fun x => (x.1, x.2 + a) := by
  have := lex_shift s.length s (Nat.le_refl _) 0 a
  rw [Nat.zero_add] at this
  rw [this]
  exact ⟨by rw [List.map_map]; rfl, rfl⟩
theorem alike_iff (a b : List Tok) : alike a b ↔ a.map untag = b.map untag := Iff.rfl
theorem lex_none (s : T) (a : Nat) (h : (lex s 0).2 = none) : (lex s a).2 = none := by rw [(lex_any s a).2, h]; rfl
theorem alike_take {a b : List Tok} (h : alike a b) : a.length = b.length := by
  have := congrArg List.length h
  simpa using this

/-- P5.6. -/
theorem lex_gaps (g p q : T) (hg : gaps g) (hp : (lex p 0).2 = none) (hq : (lex q p.length).2 = none) (l : List Tok) (hl : l = (lex p 0).1 ++ (lex q p.length).1) (a : Nat) :
    (lex (g ++ 10 :: (p ++ (g ++ 10 :: (q ++ 10 :: g)))) a).2 = none ∧ alike l (lex (g ++ 10 :: (p ++ (g ++ 10 :: (q ++ 10 :: g)))) a).1 := by
  have e1 := ((lex_mid 0 g (p ++ (g ++ 10 :: (q ++ 10 :: g))) hg [] (Nat.le_refl _) a).1 (by rw [lex_done rfl]))
  rw [show lex ([] : T) a = ([], none) from lex_done rfl a, List.nil_append, List.nil_append] at e1
  rw [e1]
  obtain ⟨b, hb⟩ : ∃ b, b = a + ([] : T).length + (g.length + 1) := ⟨_, rfl⟩
  rw [← hb]
  have e2 := ((lex_mid p.length g (q ++ 10 :: g) hg p (Nat.le_refl _) b).1 (lex_none p b hp))
  rw [e2]
  obtain ⟨d, hd⟩ : ∃ d, d = b + p.length + (g.length + 1) := ⟨_, rfl⟩
  rw [← hd]
  have hq0 : (lex q 0).2 = none := by
    rw [(lex_any q p.length).2] at hq
    cases h : (lex q 0).2 with
    | none => rfl
    | some x => rw [h] at hq; cases hq
  have e3 := ((lex_mid q.length [] g rfl q (Nat.le_refl _) d).1 (lex_none q d hq0))
  rw [List.nil_append] at e3
  rw [e3, lex_done hg]
  refine ⟨rfl, ?_⟩
  rw [alike_iff, hl]
  simp only [List.map_append, List.append_nil]
  rw [(lex_any p b).1, (lex_any q d).1, (lex_any q p.length).1]

/-! ### Words and numbers -/
theorem good_name {s : T} (h : s.all isWord = true) (h0 : s ≠ []) (hl : s.length ≤ 24) (hc : ∀ c r, s = c :: r → isLetter c = true) : Good 1 s 0 := by
  cases s with
  | nil => exact absurd rfl h0
  | cons c r =>
    rw [List.all_cons, Bool.and_eq_true] at h
    exact .inl ⟨rfl, rfl, c, r, rfl, hc c r rfl, h.2, hl⟩
/-- Decimal digits. -/
def decF : Nat → Nat → T
  | 0, n => [UInt8.ofNat (48 + n)]
  | f + 1, n => if n < 10 then [UInt8.ofNat (48 + n)] else decF f (n / 10) ++ [UInt8.ofNat (48 + n % 10)]
def dec (n : Nat) : T := decF 6 n
theorem byte48 {n : Nat} (h : n < 10) : (UInt8.ofNat (48 + n)).toNat = 48 + n := by
  rw [UInt8.toNat_ofNat']; omega
theorem byte48_digit {n : Nat} (h : n < 10) : isDigit (UInt8.ofNat (48 + n)) = true := by
  unfold isDigit
  rw [byte48 h, decide_eq_true (show 48 ≤ 48 + n by omega), decide_eq_true (show 48 + n ≤ 57 by omega)]; rfl
theorem value_snoc (s : T) (c : UInt8) : value (s ++ [c]) = 10 * value s + (c.toNat - 48) := by unfold value; rw [List.foldl_append]; rfl
theorem decF_facts : ∀ (f n : Nat), n < 10 ^ (f + 1) → (decF f n).all isDigit = true ∧ (decF f n).length ≤ f + 1 ∧ value (decF f n) = n ∧ decF f n ≠ []
  | 0, n, h => by
    have h10 : n < 10 := by simpa using h
    rw [decF]
    refine ⟨by rw [List.all_cons, byte48_digit h10]; rfl, by simp, ?_, by simp⟩
    show 10 * 0 + ((UInt8.ofNat (48 + n)).toNat - 48) = n
    rw [byte48 h10]; omega
  | f + 1, n, h => by
    rw [decF]
    split
    · rename_i h10
      refine ⟨by rw [List.all_cons, byte48_digit h10]; rfl, by simp, ?_, by simp⟩
      show 10 * 0 + ((UInt8.ofNat (48 + n)).toNat - 48) = n
      rw [byte48 h10]; omega
    · have hm : n % 10 < 10 := Nat.mod_lt _ (by decide)
      obtain ⟨h1, h2, h3, h4⟩ := decF_facts f (n / 10) (by rw [Nat.pow_succ] at h; omega)
      refine ⟨?_, by rw [List.length_append]; simp; omega, ?_, by simp⟩
      · rw [List.all_append, h1, List.all_cons, byte48_digit hm]; rfl
      · rw [value_snoc, h3, byte48 hm]; omega
theorem good_dec {n : Nat} (h : n < 10000000) : Good 2 (dec n) n := by
  obtain ⟨h1, h2, h3, h4⟩ := decF_facts 6 n (by simpa using h)
  cases hd : dec n with
  | nil => exact absurd hd h4
  | cons c r =>
    unfold dec at hd
    rw [hd, List.all_cons, Bool.and_eq_true] at h1
    rw [hd] at h2 h3
    exact .inr (.inl ⟨rfl, h3.symm, c, r, rfl, h1.1, h1.2, h2⟩)
/-- P5.8: a name, a symbol of one byte, a number. -/
theorem lex_words {s : T} (hs : Good 1 s 0) {c : UInt8} (hc : isOne c = true) {n : Nat} (hn : n < 10000000) :
    lex (s ++ (c :: dec n)) 0 = ([⟨1, s, 0, 0⟩, ⟨3, [c], 0, s.length⟩, ⟨2, dec n, n, s.length + 1⟩], none) := by
  have hd := good_dec hn
  obtain ⟨b, r, e, hb⟩ := hs.head
  obtain ⟨d, y, e2, hd2⟩ := hd.head
  obtain ⟨p1, p2, p3⟩ := one_plain hc
  have hg : Good 3 [c] 0 := .inr (.inr ⟨rfl, rfl, .inr ⟨c, rfl, hc⟩⟩)
  have hdg : isDigit d = true := by
    rcases hd with ⟨h, _⟩ | ⟨_, _, c2, r2, e3, h1, _⟩ | ⟨h, _⟩
    · cases h
    · rw [e3] at e2; cases e2; exact h1
    · cases h
  have hw : isWord c = false := by
    unfold isOne at hc
    simp only [Bool.or_eq_true, beq_iff_eq] at hc
    rcases hc with (((((((((((rfl | rfl) | rfl) | rfl) | rfl) | rfl) | rfl) | rfl) | rfl) | rfl) | rfl) | rfl) | rfl <;> decide
  have h1 : stop s (c :: dec n) = true := by
    rcases hs with ⟨_, _, c2, r2, e3, g1, _⟩ | ⟨h, _⟩ | ⟨h, _⟩
    · rw [e3]
      simp only [stop, g1, Bool.true_or, if_true, headWord, hw]; rfl
    · cases h
    · cases h
  have h2 : stop [c] (dec n) = true := by
    rw [e2]
    simp only [stop, p2, p3, headEq]
    have : (d == 61) = false := by
      cases hx : d == 61 with
      | false => rfl
      | true => rw [beq_iff_eq] at hx; subst hx; exact absurd hdg (by decide)
    simp [this]
  have q1 := lex_tok (p := []) (t := s) (x := c :: dec n) (by rw [List.nil_append, e]; exact skip_gap hb _) hs h1 0
  have q2 := lex_tok (p := []) (t := [c]) (x := dec n) (by rw [List.nil_append, List.cons_append]; exact skip_gap p1 _) hg h2 (0 + ([] : T).length + s.length)
  have q3 := lex_tok (p := []) (t := dec n) (x := []) (by rw [List.nil_append, List.append_nil, e2]; exact skip_gap hd2 _) hd (stop_nil _) (0 + ([] : T).length + s.length + ([] : T).length + [c].length)
  rw [List.nil_append] at q1 q2 q3
  rw [List.append_nil] at q3
  rw [q1]
  rw [show c :: dec n = [c] ++ dec n from rfl, q2, q3, lex_done rfl]
  simp

/-! ### The examples -/
theorem head_row : lex [114, 111, 119, 32, 97, 49, 32, 97, 116, 32, 55, 62, 61, 120, 35, 32, 121] 0 =
    ([⟨1, [114, 111, 119], 0, 0⟩, ⟨1, [97, 49], 0, 4⟩, ⟨1, [97, 116], 0, 7⟩, ⟨2, [55], 7, 10⟩, ⟨3, [62, 61], 0, 11⟩, ⟨1, [120], 0, 13⟩], none) := by rfl
theorem head_char : lex [97, 32, 33, 98] 0 = ([⟨1, [97], 0, 0⟩], some (3, 2)) := by rfl
theorem head_num : lex [55, 120] 0 = ([], some (4, 0)) := by rfl
theorem head_long : lex [49, 50, 51, 52, 53, 54, 55, 56] 0 = ([], some (4, 0)) := by rfl
theorem head_name : lex [10, 97, 98, 99, 100, 101, 102, 103, 104, 105, 106, 107, 108, 109, 110, 111, 112, 113, 114, 115, 116, 117, 118, 119, 120, 121] 0 = ([], some (2, 1)) := by rfl

/-! ### Offsets into a text -/
/-- Where the gaps end that begin at an offset. -/
def gapEnd (s : T) (i : Nat) : Nat := s.length - (skip false (s.drop i)).length
theorem gapEnd_drop (s : T) (i : Nat) (hi : i ≤ s.length) : s.drop (gapEnd s i) = skip false (s.drop i) ∧ i ≤ gapEnd s i ∧ gapEnd s i ≤ s.length := by
  unfold gapEnd
  cases h : skip false (s.drop i) with
  | nil => exact ⟨by simp, by simpa using hi, by simp⟩
  | cons c r =>
    obtain ⟨p, e, _⟩ := skip_split false _ c r h
    have hl := congrArg List.length e
    rw [List.length_drop, List.length_append] at hl
    have e2 : s.length - (c :: r).length = i + p.length := by omega
    refine ⟨?_, by omega, by omega⟩
    rw [e2, ← List.drop_drop, e, List.drop_left]
theorem skip_at (s : T) (i : Nat) (hi : i < s.length) : s.drop i = s[i] :: s.drop (i + 1) := List.drop_eq_getElem_cons hi
theorem full_small {s : T} (h : s.length ≤ 5000) : full s = match (lex s 0).2 with | none => ((lex s 0).1, 0, 0) | some (e, a) => ([], e, (a : Int)) := by
  unfold full
  have := (lex_good s.length s (Nat.le_refl _) 0).2
  rw [if_neg (by omega)]
  dsimp only
  rw [if_neg (by omega)]
  all_goals (cases (lex s 0).2 <;> rfl)
end Go.Proofs.Ytjcaingfeaaakaa.Lx
