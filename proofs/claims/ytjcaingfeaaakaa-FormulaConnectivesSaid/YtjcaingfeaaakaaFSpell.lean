/-
  Texts that are spelt from tokens with gaps before them: their tokens (for the canonical texts of P6.2 and P6.3, and for P6.6).
-/
import Derived.Test.YtjcaingfeaaakaaELexEnd
namespace Go.Proofs.Ytjcaingfeaaakaa.Lx

/-- A token with the gap before it: the gap, the kind, the text, the number. -/
abbrev Word := T × Nat × T × Nat
/-- A text of such tokens, with a gap at its end. -/
def spell (q : T) : List Word → T
  | [] => q
  | (p, _, t, _) :: ws => p ++ (t ++ spell q ws)
/-- Its tokens, from an offset on. -/
def spelt : List Word → Nat → List Tok
  | [], _ => []
  | (p, k, t, n) :: ws, a => ⟨k, t, n, a + p.length⟩ :: spelt ws (a + p.length + t.length)
/-- A gap that ends before what is no gap. -/
def Gap (p : T) : Prop := ∀ d y, isGap d = false → skip false (p ++ d :: y) = d :: y
def Spells (q : T) : List Word → Prop
  | [] => gaps q
  | (p, k, t, n) :: ws => Gap p ∧ Good k t n ∧ stop t (spell q ws) = true ∧ Spells q ws
theorem gap_nil : Gap [] := fun _ y h => skip_gap h y
theorem gap_blank {c : UInt8} (hc : isBlank c = true) : Gap [c] := fun d y h => by
  rw [List.singleton_append, skip, if_pos hc]; exact skip_gap h y
theorem lex_spell {q : T} : ∀ {ws : List Word}, Spells q ws → ∀ a, lex (spell q ws) a = (spelt ws a, none)
  | [], h, a => lex_done h a
  | (p, k, t, n) :: ws, ⟨h1, h2, h3, h4⟩, a => by
    obtain ⟨c, r, e, hc⟩ := h2.head
    have hk : skip false (p ++ (t ++ spell q ws)) = t ++ spell q ws := by
      rw [e, List.cons_append]; exact h1 c _ hc
    rw [spell, lex_tok hk h2 h3 a, lex_spell h4, spelt]
theorem spelt_len : ∀ (ws : List Word) (a : Nat), (spelt ws a).length = ws.length
  | [], _ => rfl
  | (_, _, _, _) :: ws, a => by rw [spelt, List.length_cons, List.length_cons, spelt_len ws]
theorem spelt_get : ∀ (ws : List Word) (a i : Nat) (w : Word), ws[i]? = some w → ∃ b, (spelt ws a)[i]? = some ⟨w.2.1, w.2.2.1, w.2.2.2, b⟩
  | [], _, _, _, h => by simp at h
  | (p, k, t, n) :: ws, a, 0, w, h => by
    have e : (p, k, t, n) = w := by simpa using h
    subst e
    exact ⟨a + p.length, rfl⟩
  | (p, k, t, n) :: ws, a, i + 1, w, h => by
    obtain ⟨b, hb⟩ := spelt_get ws (a + p.length + t.length) i w (by simpa using h)
    exact ⟨b, by rw [spelt]; simpa using hb⟩
theorem spell_app (q : T) : ∀ ws vs : List Word, spell q (ws ++ vs) = spell (spell q vs) ws
  | [], vs => rfl
  | (p, k, t, n) :: ws, vs => by rw [List.cons_append, spell, spell, spell_app q ws vs]
/-- A gap that is a blank, or one behind a name or a number before a symbol, parts tokens. -/
theorem stop_blank {k : Nat} {t : T} {n : Nat} (_h : Good k t n) {c : UInt8} (hc : isGap c = true) (x : T) : stop t (c :: x) = true := by
  have h1 : headWord (c :: x) = false := by
    show isWord c = false
    unfold isGap isBlank at hc
    simp only [Bool.or_eq_true, beq_iff_eq] at hc
    rcases hc with ((rfl | rfl) | rfl) | rfl <;> rfl
  have h2 : headEq (c :: x) = false := by
    show (c == 61) = false
    unfold isGap isBlank at hc
    simp only [Bool.or_eq_true, beq_iff_eq] at hc
    rcases hc with ((rfl | rfl) | rfl) | rfl <;> rfl
  cases t with
  | nil => rfl
  | cons d r =>
    show (if (isLetter d || isDigit d) = true then !headWord (c :: x) else if (r.isEmpty && isTwo d) = true then !headEq (c :: x) else true) = true
    rw [h1, h2]
    simp
/-- A name or a number before a symbol. -/
theorem stop_symbol {k : Nat} {t : T} {n : Nat} (h : Good k t n) (hk : k ≠ 3) {c : UInt8} (hc : isWord c = false) (x : T) : stop t (c :: x) = true := by
  have h1 : headWord (c :: x) = false := hc
  rcases h with ⟨_, _, d, r, rfl, hd, _⟩ | ⟨_, _, d, r, rfl, hd, _⟩ | ⟨h, _⟩
  · show (if (isLetter d || isDigit d) = true then !headWord (c :: x) else _) = true
    rw [hd, h1]; rfl
  · show (if (isLetter d || isDigit d) = true then !headWord (c :: x) else _) = true
    rw [hd, h1, Bool.or_true]; rfl
  · exact absurd h hk
end Go.Proofs.Ytjcaingfeaaakaa.Lx
