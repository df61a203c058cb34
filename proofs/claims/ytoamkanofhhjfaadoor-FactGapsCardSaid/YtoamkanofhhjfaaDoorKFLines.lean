import Derived.Test.YtoamkanofhhjfaaDoorKFCon
/-
  Tokens' texts, each with a line feed behind it: they make the same tokens, so the same domain, case or error (P6.6), in arithmetic.
-/
namespace Go.Proofs.YtoamkanofhhjfaaDoor.Fc
open Lx

def lines : List Tok → T
  | [] => []
  | t :: l => t.text ++ 10 :: lines l
theorem lines_snoc (t : Tok) : ∀ l : List Tok, lines (l ++ [t]) = lines l ++ (t.text ++ [10])
  | [] => rfl
  | u :: l => by rw [List.cons_append, lines, lines_snoc t l, lines]; simp
theorem lex_nl (s : T) (a : Nat) : lex (10 :: s) a = lex s (a + 1) := by
  have h0 : skip false (10 :: s) = skip false s := by rw [skip, if_pos (by decide)]
  rcases lex_cases s with h | ⟨p, c, r, er, rfl, h1, h2, hc, hn⟩ | ⟨p, t, x, k, n, rfl, h1, h2, hg, hst⟩
  · rw [lex_done h, lex_done (h0.trans h)]
  · have := lex_err (p := 10 :: p) (c := c) (r := r) (by rw [List.cons_append, h0]; exact h2 c r hc) hn a
    rw [List.cons_append] at this
    rw [this, lex_err (h2 c r hc) hn]
    simp only [List.length_cons]
    rw [show a + (p.length + 1) = a + 1 + p.length by omega]
  · have := lex_tok (p := 10 :: p) (t := t) (x := x) (by rw [List.cons_append, h0]; exact skip_tok h2 hg x) hg hst a
    rw [List.cons_append] at this
    rw [this, lex_tok (skip_tok h2 hg x) hg hst]
    simp only [List.length_cons]
    rw [show a + (p.length + 1) = a + 1 + p.length by omega]
theorem lex_lines : ∀ (l : List Tok), (∀ t ∈ l, Lx.Good t.kind t.text t.n) → ∀ a, (lex (lines l) a).2 = none ∧ alike l (lex (lines l) a).1
  | [], _, a => by rw [lines, lex_done rfl]; exact ⟨rfl, rfl⟩
  | t :: l, h, a => by
    have hg := h t (List.mem_cons_self ..)
    obtain ⟨i1, i2⟩ := lex_lines l (fun u hu => h u (List.mem_cons_of_mem _ hu)) (a + 0 + t.text.length + 1)
    obtain ⟨c, r, e, hc⟩ := hg.head
    have := lex_tok (p := []) (t := t.text) (x := 10 :: lines l) (by rw [List.nil_append, e]; exact skip_gap hc _) hg (stop_gap _ (by decide) _) a
    rw [List.nil_append] at this
    rw [lines, this, lex_nl]
    refine ⟨i1, ?_⟩
    unfold alike at i2 ⊢
    rw [List.map_cons, List.map_cons, i2]; rfl
theorem lines_len (m : Nat) : ∀ s : T, s.length ≤ m → ∀ a, (lines (lex s a).1).length ≤ 2 * s.length := by
  induction m with
  | zero =>
    intro s hs a
    have : s = [] := List.length_eq_zero_iff.1 (by omega)
    subst this
    rw [lex_done rfl]
    exact Nat.le_refl _
  | succ m ih =>
    intro s hs a
    rcases lex_cases s with h | ⟨p, c, r, e, rfl, h1, h2, hc, hn⟩ | ⟨p, t, x, k, n, rfl, h1, h2, hg, hst⟩
    · rw [lex_done h]; exact Nat.zero_le _
    · rw [lex_err (h2 c r hc) hn]; exact Nat.zero_le _
    · rw [lex_tok (skip_tok h2 hg x) hg hst]
      have := ih x (tok_len hg hs) (a + p.length + t.length)
      have := hg.pos
      simp only [lines, List.length_append, List.length_cons]
      omega
theorem lines_mono : ∀ (l : List Tok) (k : Nat), (lines (l.take k)).length ≤ (lines l).length
  | [], k => by simp
  | t :: l, 0 => Nat.zero_le _
  | t :: l, k + 1 => by
    have := lines_mono l k
    simp only [List.take_succ_cons, lines, List.length_append, List.length_cons]
    omega
/-- Both readings are the same, or errors of one number. -/
def Both {α : Type} (x y : Except (Nat × Int) α) : Prop := (∃ a, x = .ok a ∧ y = .ok a) ∨ ∃ (e : Nat) (i j : Int), e ≠ 0 ∧ x = .error (e, i) ∧ y = .error (e, j)
theorem full_lines {s : T} (h : s.length ≤ 2000) (hx : (lex s 0).2 = none) :
    full s = ((lex s 0).1, 0, 0) ∧ full (lines (lex s 0).1) = ((lex (lines (lex s 0).1) 0).1, 0, 0) ∧ Alk (lex s 0).1 (lex (lines (lex s 0).1) 0).1 ∧ Nr s.length (lex s 0).1 := by
  have hl := lines_len s.length s (Nat.le_refl _) 0
  obtain ⟨h1, h2⟩ := lex_lines (lex s 0).1 (lex_good s.length s (Nat.le_refl _) 0).1 0
  have hn := places_near _ (lex_places s.length s (Nat.le_refl _) 0 hx)
  rw [Nat.zero_add] at hn
  refine ⟨?_, ?_, h2, hn⟩
  · rw [full_small (by omega), hx]
  · rw [full_small (by omega), h1]
theorem like_both {α : Type} {x y : Except (Nat × Nat) α} (h : like Eq x y) {e : Nat} (hb : Bd e (fun _ => True) x) : Both (wide x) (wide y) := by
  cases x with
  | ok a =>
    cases y with
    | ok b => have : a = b := h; subst this; exact .inl ⟨a, rfl, rfl⟩
    | error z => exact h.elim
  | error z =>
    cases y with
    | ok b => exact h.elim
    | error z2 =>
      obtain ⟨z, zi⟩ := z
      obtain ⟨z2, zj⟩ := z2
      have : z = z2 := h
      subst this
      exact .inr ⟨z, zi, zj, hb.1, rfl, rfl⟩
theorem parseT_lines {s : T} (h : s.length ≤ 2000) (hx : (lex s 0).2 = none) : Both (parseT s) (parseT (lines (lex s 0).1)) := by
  obtain ⟨h1, h2, h3, h4⟩ := full_lines h hx
  unfold parseT
  rw [h1, h2, if_pos rfl, if_pos rfl]
  exact like_both (parse_alk h3 _ _) (parse_bd h4)
theorem caseT_lines {d : List Fact} {s : T} (h : s.length ≤ 2000) (hx : (lex s 0).2 = none) : Both (caseT d s) (caseT d (lines (lex s 0).1)) := by
  obtain ⟨h1, h2, h3, h4⟩ := full_lines h hx
  unfold caseT
  rw [h1, h2, if_pos rfl, if_pos rfl]
  exact like_both (case_alk h3 _ _ d) (parseCase_bd h4)
end Go.Proofs.YtoamkanofhhjfaaDoor.Fc
