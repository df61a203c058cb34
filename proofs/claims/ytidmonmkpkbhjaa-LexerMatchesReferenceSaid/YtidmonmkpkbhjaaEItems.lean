/-
  The tokens of a text and its error as one list; how they come one after the other.
-/
import Derived.Test.YtidmonmkpkbhjaaEGap
import Derived.Test.YtidmonmkpkbhjaaETok
namespace Go.Proofs.Ytidmonmkpkbhjaa.Lx

/-- The tokens up to the end or the first error, and this. -/
def items (x : T) (a : Nat) : List (Tok × Nat) :=
  (lex x a).1.map (fun t => (t, 0)) ++ (match (lex x a).2 with | none => [] | some e => [(noTok e.2, e.1)])
theorem lex_skip (x : T) (a : Nat) : lex x a = lex (skip false x) (a + (x.length - (skip false x).length)) := by
  rcases lex_cases x with h | ⟨p, c, r, e, rfl, h1, h2, hc, hn⟩ | ⟨p, t, y, k, n, rfl, h1, h2, hg, hs⟩
  · rw [lex_done h, h]
    rw [lex_done (by rfl)]
  · rw [lex_err (h2 c r hc) hn, h2 c r hc]
    have := lex_err (p := []) (c := c) (r := r) (by rw [List.nil_append]; exact skip_gap hc r) hn (a + ((p ++ c :: r).length - (c :: r).length))
    rw [List.nil_append] at this
    rw [this, List.length_append, Nat.add_sub_cancel]
    rfl
  · have hk := skip_tok h2 hg y
    rw [lex_tok hk hg hs, hk]
    obtain ⟨c, r, e, hc⟩ := hg.head
    have := lex_tok (p := []) (t := t) (x := y) (by rw [List.nil_append, e]; exact skip_gap hc _) hg hs (a + ((p ++ (t ++ y)).length - (t ++ y).length))
    rw [List.nil_append] at this
    rw [this, show (p ++ (t ++ y)).length = p.length + (t ++ y).length from List.length_append, Nat.add_sub_cancel]
    rfl
theorem items_skip (s : ByteArray) (j : Nat) (hj : j ≤ s.size) : items ((tx s).drop j) j = items ((tx s).drop (gEnd s j)) (gEnd s j) := by
  obtain ⟨h1, h2, h3⟩ := gapEnd_drop (tx s) j (by rw [tx_len]; exact hj)
  unfold items
  rw [lex_skip ((tx s).drop j) j, h1]
  have : j + (((tx s).drop j).length - (skip false ((tx s).drop j)).length) = gEnd s j := by
    show _ = gapEnd (tx s) j
    rw [← h1]
    simp only [List.length_drop]
    omega
  rw [this]
theorem gEnd_le (s : ByteArray) (j : Nat) (hj : j ≤ s.size) : j ≤ gEnd s j ∧ gEnd s j ≤ s.size := by
  obtain ⟨h1, h2, h3⟩ := gapEnd_drop (tx s) j (by rw [tx_len]; exact hj)
  exact ⟨h2, by rw [tx_len] at h3; exact h3⟩
theorem items_end (s : ByteArray) (j : Nat) (hj : s.size ≤ j) : items ((tx s).drop j) j = [] := by
  unfold items
  rw [drop_end s j hj, lex_done (by rfl)]
  rfl
/-- Where the gaps end, none goes on. -/
theorem gEnd_head (s : ByteArray) (j : Nat) (hj : j ≤ s.size) (h : gEnd s j < s.size) : isGap s[gEnd s j] = false := by
  obtain ⟨h1, h2, h3⟩ := gapEnd_drop (tx s) j (by rw [tx_len]; exact hj)
  have := drop_at s (gEnd s j) h
  rw [h1] at this
  exact skip_head _ _ _ _ this
/-- At a byte that is no gap: what comes first, and what behind it. -/
theorem items_step (s : ByteArray) (i : Nat) (hi : i < s.size) (hg : isGap s[i] = false) :
    (∃ e, res (next s[i] ((tx s).drop (i + 1))) i = (noTok i, e) ∧ e ≠ 0 ∧ items ((tx s).drop i) i = [(noTok i, e)]) ∨
    (∃ t : Tok, res (next s[i] ((tx s).drop (i + 1))) i = (t, 0) ∧ t.at_ = i ∧ 0 < t.text.length ∧ i + t.text.length ≤ s.size ∧ items ((tx s).drop i) i = (t, 0) :: items ((tx s).drop (i + t.text.length)) (i + t.text.length)) := by
  have hd := drop_at s i hi
  cases hn : next s[i] ((tx s).drop (i + 1)) with
  | err e =>
    left
    have h := lex_err (p := []) (by rw [List.nil_append]; exact skip_gap hg ((tx s).drop (i + 1))) hn i
    rw [List.nil_append, ← hd] at h
    have hx := lex_errAt _ ((tx s).drop i) (Nat.le_refl _) i (e, i) (by rw [h]; rfl)
    refine ⟨e, rfl, by have := hx.2.2; simp only at this; omega, ?_⟩
    unfold items
    rw [h]; rfl
  | tok k t n =>
    right
    obtain ⟨x, e, hgd, hst⟩ := next_tok hn
    have h := lex_tok (p := []) (t := t) (x := x) (by rw [List.nil_append, ← e]; exact skip_gap hg _) hgd hst i
    rw [List.nil_append, ← e, ← hd] at h
    have hl : i + t.length ≤ s.size := by
      have := congrArg List.length e
      rw [← hd, List.length_append, List.length_drop, tx_len] at this; omega
    have hx : (tx s).drop (i + t.length) = x := by
      rw [← List.drop_drop, hd, e, List.drop_left]
    refine ⟨⟨k, t, n, i⟩, rfl, rfl, hgd.pos, hl, ?_⟩
    show _ = _ :: items ((tx s).drop (i + t.length)) (i + t.length)
    unfold items
    rw [h, hx]
    rfl
/-- The same, with one letter for what comes first. -/
theorem items_next (s : ByteArray) (i : Nat) (hi : i < s.size) (hg : isGap s[i] = false) (R : Tok × Nat) (hR : R = res (next s[i] ((tx s).drop (i + 1))) i) :
    (R.2 ≠ 0 ∧ items ((tx s).drop i) i = [R]) ∨
    (R.2 = 0 ∧ 0 < R.1.text.length ∧ i + R.1.text.length ≤ s.size ∧ items ((tx s).drop i) i = R :: items ((tx s).drop (i + R.1.text.length)) (i + R.1.text.length)) := by
  rcases items_step s i hi hg with ⟨e, h1, h2, h3⟩ | ⟨t, h1, h2, h3, h4, h5⟩
  · rw [h1] at hR; subst hR; exact .inl ⟨h2, h3⟩
  · rw [h1] at hR; subst hR; exact .inr ⟨rfl, h3, h4, h5⟩
theorem items_len (s : ByteArray) : (items (tx s) 0).length ≤ s.size + 1 := by
  unfold items
  have := (lex_good _ (tx s) (Nat.le_refl _) 0).2
  rw [tx_len] at this
  rw [List.length_append, List.length_map]
  have : ∀ o : Option (Nat × Nat), (match o with | none => [] | some e => [(noTok e.2, e.1)] : List (Tok × Nat)).length ≤ 1 := by
    intro o; cases o <;> simp
  have := this (lex (tx s) 0).2
  omega
end Go.Proofs.Ytidmonmkpkbhjaa.Lx
