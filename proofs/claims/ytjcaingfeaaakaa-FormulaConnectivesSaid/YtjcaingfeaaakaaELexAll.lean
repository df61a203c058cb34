/-
  The laws of the lexer, over the arithmetic.
-/
import Derived.Test.YtjcaingfeaaakaaELexTok
namespace Go.Proofs.Ytjcaingfeaaakaa.Lx

theorem tok_len {m : Nat} {p t x : T} {k n : Nat} (hg : Good k t n) (h : (p ++ (t ++ x)).length ≤ m + 1) : x.length ≤ m := by
  rw [List.length_append, List.length_append] at h; have := hg.pos; omega

/-- Every token is one, and there are not more than bytes. -/
theorem lex_good (m : Nat) : ∀ s : T, s.length ≤ m → ∀ a, (∀ t ∈ (lex s a).1, Good t.kind t.text t.n) ∧ (lex s a).1.length ≤ s.length := by
  induction m with
  | zero =>
    intro s hs a
    have : s = [] := List.length_eq_zero_iff.1 (by omega)
    subst this
    rw [lex_done rfl]
    exact ⟨by simp, Nat.le_refl _⟩
  | succ m ih =>
    intro s hs a
    rcases lex_cases s with h | ⟨p, c, r, e, rfl, h1, h2, hc, hn⟩ | ⟨p, t, x, k, n, rfl, h1, h2, hg, hst⟩
    · rw [lex_done h]; exact ⟨by simp, Nat.zero_le _⟩
    · rw [lex_err (h2 c r hc) hn]; exact ⟨by simp, Nat.zero_le _⟩
    · rw [lex_tok (skip_tok h2 hg x) hg hst]
      have := ih x (tok_len hg hs) (a + p.length + t.length)
      refine ⟨fun y hy => ?_, ?_⟩
      · rcases List.mem_cons.1 hy with rfl | hy
        · exact hg
        · exact this.1 y hy
      · have h3 := this.2
        have h4 := hg.pos
        simp only [List.length_cons, List.length_append]
        omega
/-- An error stands within the text. -/
theorem lex_errAt (m : Nat) : ∀ s : T, s.length ≤ m → ∀ a x, (lex s a).2 = some x → a ≤ x.2 ∧ x.2 < a + s.length ∧ (x.1 = 2 ∨ x.1 = 3 ∨ x.1 = 4) := by
  induction m with
  | zero =>
    intro s hs a x hx
    have : s = [] := List.length_eq_zero_iff.1 (by omega)
    subst this
    rw [lex_done rfl] at hx
    cases hx
  | succ m ih =>
    intro s hs a y hy
    rcases lex_cases s with h | ⟨p, c, r, e, rfl, h1, h2, hc, hn⟩ | ⟨p, t, x, k, n, rfl, h1, h2, hg, hst⟩
    · rw [lex_done h] at hy; cases hy
    · rw [lex_err (h2 c r hc) hn] at hy
      cases hy
      refine ⟨by simp, by simp, ?_⟩
      unfold next at hn
      split at hn
      · split at hn
        · cases hn
        · cases hn; exact .inl rfl
      · split at hn
        · split at hn
          · cases hn
          · cases hn; exact .inr (.inr rfl)
        · split at hn
          · cases hn
          · split at hn
            · cases hn
            · cases hn; exact .inr (.inl rfl)
    · rw [lex_tok (skip_tok h2 hg x) hg hst] at hy
      obtain ⟨q1, q2, q3⟩ := ih x (tok_len hg hs) _ y hy
      rw [List.length_append, List.length_append]
      exact ⟨by omega, by omega, q3⟩

/-- P5.4, P5.6: two texts with gaps and a line feed between them. -/
theorem lex_mid (m : Nat) (g two : T) (hgp : gaps g) : ∀ s : T, s.length ≤ m → ∀ a,
    ((lex s a).2 = none → lex (s ++ (g ++ 10 :: two)) a = ((lex s a).1 ++ (lex two (a + s.length + (g.length + 1))).1, (lex two (a + s.length + (g.length + 1))).2)) ∧
    (∀ x, (lex s a).2 = some x → lex (s ++ (g ++ 10 :: two)) a = ((lex s a).1, some x)) := by
  have hend : ∀ (s : T), skip false s = [] → ∀ a, lex (s ++ (g ++ 10 :: two)) a = ((lex two (a + s.length + (g.length + 1))).1, (lex two (a + s.length + (g.length + 1))).2) := by
    intro s hs a
    have h := skip_mid false s g two hs hgp
    rcases lex_cases two with h0 | ⟨p, c, r, e, rfl, h1, h2, hc, hn⟩ | ⟨p, t, x, k, n, rfl, h1, h2, hg, hst⟩
    · rw [h0] at h
      rw [lex_done h, lex_done h0]
    · rw [h2 c r hc] at h
      have e2 : s ++ (g ++ 10 :: (p ++ c :: r)) = (s ++ (g ++ 10 :: p)) ++ c :: r := by simp
      rw [e2] at h ⊢
      rw [lex_err h hn, lex_err (h2 c r hc) hn]
      simp only [List.length_append, List.length_cons]
      rw [show a + (s.length + (g.length + (p.length + 1))) = a + s.length + (g.length + 1) + p.length by omega]
    · rw [skip_tok h2 hg x] at h
      have e2 : s ++ (g ++ 10 :: (p ++ (t ++ x))) = (s ++ (g ++ 10 :: p)) ++ (t ++ x) := by simp
      rw [e2] at h ⊢
      rw [lex_tok h hg hst, lex_tok (skip_tok h2 hg x) hg hst]
      simp only [List.length_append, List.length_cons]
      rw [show a + (s.length + (g.length + (p.length + 1))) = a + s.length + (g.length + 1) + p.length by omega]
  induction m with
  | zero =>
    intro s hs a
    have : s = [] := List.length_eq_zero_iff.1 (by omega)
    subst this
    rw [lex_done rfl]
    exact ⟨fun _ => hend [] rfl a, fun x hx => by cases hx⟩
  | succ m ih =>
    intro s hs a
    obtain ⟨x0, y0, e0, hx0⟩ := gaps_head hgp two
    rcases lex_cases s with h | ⟨p, c, r, e, rfl, h1, h2, hc, hn⟩ | ⟨p, t, x, k, n, rfl, h1, h2, hg, hst⟩
    · rw [lex_done h]
      exact ⟨fun _ => hend s h a, fun x hx => by cases hx⟩
    · rw [lex_err (h2 c r hc) hn]
      refine ⟨fun hx => (by cases hx), fun x hx => ?_⟩
      cases hx
      have e2 : (p ++ c :: r) ++ (g ++ 10 :: two) = p ++ c :: (r ++ (g ++ 10 :: two)) := by simp
      rw [e2, lex_err (h2 c _ hc) (by rw [e0, next_ext c r hx0 y0]; exact hn)]
    · have e2 : (p ++ (t ++ x)) ++ (g ++ 10 :: two) = p ++ (t ++ (x ++ (g ++ 10 :: two))) := by simp
      have hs2 : stop t (x ++ (g ++ 10 :: two)) = true := by
        cases x with
        | nil => rw [List.nil_append, e0]; exact stop_gap t hx0 y0
        | cons c x => exact stop_head t c x _ hst
      rw [lex_tok (skip_tok h2 hg x) hg hst, e2, lex_tok (skip_tok h2 hg _) hg hs2]
      obtain ⟨i1, i2⟩ := ih x (tok_len hg hs) (a + p.length + t.length)
      refine ⟨fun hx => ?_, fun y hy => ?_⟩
      · rw [i1 hx]
        simp only [List.length_append, List.cons_append]
        rw [show a + (p.length + (t.length + x.length)) + (g.length + 1) = a + p.length + t.length + x.length + (g.length + 1) by omega]
      · rw [i2 y hy]

/-- P5.5: the text before an error, and from there on. -/
theorem lex_upto (m : Nat) : ∀ s : T, s.length ≤ m → ∀ a e b, (lex s a).2 = some (e, b) → ∃ p q, s = p ++ q ∧ b = a + p.length ∧ q ≠ [] ∧ lex p a = ((lex s a).1, none) ∧ ∀ d, lex q d = ([], some (e, d)) := by
  induction m with
  | zero =>
    intro s hs a e b hx
    have : s = [] := List.length_eq_zero_iff.1 (by omega)
    subst this
    rw [lex_done rfl] at hx
    cases hx
  | succ m ih =>
    intro s hs a e b hx
    rcases lex_cases s with h | ⟨p, c, r, er, rfl, h1, h2, hc, hn⟩ | ⟨p, t, x, k, n, rfl, h1, h2, hg, hst⟩
    · rw [lex_done h] at hx; cases hx
    · rw [lex_err (h2 c r hc) hn] at hx ⊢
      cases hx
      refine ⟨p, c :: r, rfl, rfl, by simp, lex_done h1 a, fun d => ?_⟩
      have := lex_err (p := []) (skip_gap hc r) hn d
      simpa using this
    · rw [lex_tok (skip_tok h2 hg x) hg hst] at hx ⊢
      obtain ⟨p2, q, rfl, rfl, hq, h3, h4⟩ := ih x (tok_len hg hs) _ e b hx
      refine ⟨p ++ (t ++ p2), q, by simp, by simp only [List.length_append]; omega, hq, ?_, h4⟩
      rw [lex_tok (skip_tok h2 hg p2) hg (stop_pre t p2 q hst), h3]

/-- A text is cut behind a token. -/
theorem lex_cut (m : Nat) : ∀ s : T, s.length ≤ m → ∀ a (i : Nat) (y : Tok), (lex s a).1[i]? = some y → ∃ p q, s = p ++ q ∧ a + p.length = y.at_ + y.text.length ∧
    lex p a = ((lex s a).1.take (i + 1), none) ∧ lex q (a + p.length) = ((lex s a).1.drop (i + 1), (lex s a).2) := by
  induction m with
  | zero =>
    intro s hs a i y hx
    have : s = [] := List.length_eq_zero_iff.1 (by omega)
    subst this
    rw [lex_done rfl] at hx
    simp at hx
  | succ m ih =>
    intro s hs a i y hx
    rcases lex_cases s with h | ⟨p, c, r, er, rfl, h1, h2, hc, hn⟩ | ⟨p, t, x, k, n, rfl, h1, h2, hg, hst⟩
    · rw [lex_done h] at hx; simp at hx
    · rw [lex_err (h2 c r hc) hn] at hx; simp at hx
    · rw [lex_tok (skip_tok h2 hg x) hg hst] at hx ⊢
      cases i with
      | zero =>
        have : y = ⟨k, t, n, a + p.length⟩ := by simpa using hx.symm
        subst this
        refine ⟨p ++ (t ++ []), x, by simp, by simp only [List.length_append, List.length_nil]; omega, ?_, ?_⟩
        · rw [lex_tok (skip_tok h2 hg []) hg (stop_nil t), lex_done rfl]; rfl
        · simp only [List.append_nil, List.length_append]
          rw [show a + (p.length + t.length) = a + p.length + t.length by omega]
          rfl
      | succ i =>
        obtain ⟨p2, q, rfl, h3, h4, h5⟩ := ih x (tok_len hg hs) _ i y (by simpa using hx)
        refine ⟨p ++ (t ++ p2), q, by simp, by simp only [List.length_append]; omega, ?_, ?_⟩
        · rw [lex_tok (skip_tok h2 hg p2) hg (stop_pre t p2 q hst), h4]; rfl
        · simp only [List.length_append]
          rw [show a + (p.length + (t.length + p2.length)) = a + p.length + t.length + p2.length by omega, h5]
          rfl

/-- P5.2: where the tokens stand. -/
def Places : T → Nat → List Tok → Prop
  | s, _, [] => gaps s
  | s, a, t :: l => ∃ p x, s = p ++ (t.text ++ x) ∧ t.at_ = a + p.length ∧ gaps p ∧ Good t.kind t.text t.n ∧ Places x (t.at_ + t.text.length) l
theorem lex_places (m : Nat) : ∀ s : T, s.length ≤ m → ∀ a, (lex s a).2 = none → Places s a (lex s a).1 := by
  induction m with
  | zero =>
    intro s hs a _
    have : s = [] := List.length_eq_zero_iff.1 (by omega)
    subst this
    rw [lex_done rfl]
    exact rfl
  | succ m ih =>
    intro s hs a hx
    rcases lex_cases s with h | ⟨p, c, r, er, rfl, h1, h2, hc, hn⟩ | ⟨p, t, x, k, n, rfl, h1, h2, hg, hst⟩
    · rw [lex_done h]; exact h
    · rw [lex_err (h2 c r hc) hn] at hx; cases hx
    · rw [lex_tok (skip_tok h2 hg x) hg hst] at hx ⊢
      exact ⟨p, x, rfl, rfl, h1, hg, ih x (tok_len hg hs) _ hx⟩

/-- P5.3: the tokens, written with a blank after each. -/
def written : List Tok → T
  | [] => []
  | t :: l => t.text ++ 32 :: written l
/-- The same, apart from offsets. -/
def alike (a b : List Tok) : Prop := a.map (fun t => (t.kind, t.text, t.n)) = b.map fun t => (t.kind, t.text, t.n)
theorem lex_blank (s : T) (a : Nat) : lex (32 :: s) a = lex s (a + 1) := by
  have h0 : skip false (32 :: s) = skip false s := by rw [skip, if_pos (by decide)]
  rcases lex_cases s with h | ⟨p, c, r, er, rfl, h1, h2, hc, hn⟩ | ⟨p, t, x, k, n, rfl, h1, h2, hg, hst⟩
  · rw [lex_done h, lex_done (h0.trans h)]
  · have := lex_err (p := 32 :: p) (c := c) (r := r) (by rw [List.cons_append, h0]; exact h2 c r hc) hn a
    rw [List.cons_append] at this
    rw [this, lex_err (h2 c r hc) hn]
    simp only [List.length_cons]
    rw [show a + (p.length + 1) = a + 1 + p.length by omega]
  · have := lex_tok (p := 32 :: p) (t := t) (x := x) (by rw [List.cons_append, h0]; exact skip_tok h2 hg x) hg hst a
    rw [List.cons_append] at this
    rw [this, lex_tok (skip_tok h2 hg x) hg hst]
    simp only [List.length_cons]
    rw [show a + (p.length + 1) = a + 1 + p.length by omega]
theorem lex_written : ∀ (l : List Tok), (∀ t ∈ l, Good t.kind t.text t.n) → ∀ a, (lex (written l) a).2 = none ∧ alike l (lex (written l) a).1
  | [], _, a => by rw [written, lex_done rfl]; exact ⟨rfl, rfl⟩
  | t :: l, h, a => by
    have hg := h t (List.mem_cons_self ..)
    obtain ⟨i1, i2⟩ := lex_written l (fun u hu => h u (List.mem_cons_of_mem _ hu)) (a + 0 + t.text.length + 1)
    obtain ⟨c, r, e, hc⟩ := hg.head
    have := lex_tok (p := []) (t := t.text) (x := 32 :: written l) (by rw [List.nil_append, e]; exact skip_gap hc _) hg (stop_gap _ (by decide) _) a
    rw [List.nil_append] at this
    rw [written, this, lex_blank]
    refine ⟨i1, ?_⟩
    unfold alike at i2 ⊢
    rw [List.map_cons, List.map_cons, i2]; rfl

/-- P5.7: two tokens that follow each other directly. -/
theorem places_adjacent {s : T} {a : Nat} (i : Nat) {y z : Tok} (hy : (lex s a).1[i]? = some y) (hz : (lex s a).1[i + 1]? = some z) (he : y.at_ + y.text.length = z.at_) :
    Good y.kind y.text y.n ∧ Good z.kind z.text z.n ∧ stop y.text z.text = true := by
  obtain ⟨p, q, e1, e2, h1, h2⟩ := lex_cut s.length s (Nat.le_refl _) a i y hy
  have hgy := (lex_good s.length s (Nat.le_refl _) a).1 y (List.mem_of_getElem? hy)
  have hgz := (lex_good s.length s (Nat.le_refl _) a).1 z (List.mem_of_getElem? hz)
  refine ⟨hgy, hgz, ?_⟩
  have hq : (lex q (a + p.length)).1[0]? = some z := by rw [h2]; simpa using hz
  rcases lex_cases q with h | ⟨p2, c, r, er, rfl, _, h4, hc, hn⟩ | ⟨p2, t, x, k, n, rfl, _, h4, hg, hst⟩
  · rw [lex_done h] at hq; simp at hq
  · rw [lex_err (h4 c r hc) hn] at hq; simp at hq
  · rw [lex_tok (skip_tok h4 hg x) hg hst] at hq
    have : z = ⟨k, t, n, a + p.length + p2.length⟩ := by simpa using hq.symm
    subst this
    have hp2 : p2 = [] := List.length_eq_zero_iff.1 (by dsimp only at he; omega)
    subst hp2
    rw [List.nil_append] at e1
    -- the token y, and what follows it
    have key : ∀ (m : Nat) (s : T), s.length ≤ m → ∀ (a i : Nat), (lex s a).1[i]? = some y → ∀ w, s = w → ∃ u, (∃ v, w = v ++ (y.text ++ u) ∧ a + v.length = y.at_) ∧ stop y.text u = true := by
      intro m
      induction m with
      | zero =>
        intro s hs a i hx w _
        have : s = [] := List.length_eq_zero_iff.1 (by omega)
        subst this
        rw [lex_done rfl] at hx
        simp at hx
      | succ m ih =>
        intro s hs a i hx w hw
        subst hw
        rcases lex_cases s with h | ⟨p, c, r, er, rfl, h1, h2, hc, hn⟩ | ⟨p, t, x, k, n, rfl, h1, h2, hg, hst⟩
        · rw [lex_done h] at hx; simp at hx
        · rw [lex_err (h2 c r hc) hn] at hx; simp at hx
        · rw [lex_tok (skip_tok h2 hg x) hg hst] at hx
          cases i with
          | zero =>
            have : y = ⟨k, t, n, a + p.length⟩ := by simpa using hx.symm
            subst this
            exact ⟨x, ⟨p, rfl, rfl⟩, hst⟩
          | succ i =>
            obtain ⟨u, ⟨v, e, hv⟩, hs3⟩ := ih x (tok_len hg hs) _ i (by simpa using hx) x rfl
            exact ⟨u, ⟨p ++ (t ++ v), by rw [e]; simp, by rw [← hv]; simp only [List.length_append]; omega⟩, hs3⟩
    obtain ⟨u, ⟨v, e3, hv⟩, hs3⟩ := key s.length s (Nat.le_refl _) a i hy s rfl
    have hu : u = t ++ x := by
      have e4 : (v ++ y.text) ++ u = p ++ (t ++ x) := by rw [List.append_assoc, ← e3, e1]
      have hl : (v ++ y.text).length = p.length := by rw [List.length_append]; omega
      exact (List.append_inj e4 hl).2
    rw [hu] at hs3
    exact stop_pre _ _ _ hs3
theorem lex_two {y z : Tok} (hy : Good y.kind y.text y.n) (hz : Good z.kind z.text z.n) (hs : stop y.text z.text = true) (a : Nat) : (lex (y.text ++ z.text) a).2 = none → (lex (y.text ++ z.text) a).1.length ≠ 1 := by
  obtain ⟨c, r, e, hc⟩ := hy.head
  have := lex_tok (p := []) (t := y.text) (x := z.text) (by rw [List.nil_append, e]; exact skip_gap hc _) hy hs a
  rw [List.nil_append] at this
  rw [this]
  obtain ⟨c2, r2, e2, hc2⟩ := hz.head
  have hk : skip false z.text ≠ [] := by rw [e2, skip_gap hc2]; simp
  rcases lex_cases z.text with h | ⟨p, c, r, er, e3, h1, h2, hc, hn⟩ | ⟨p, t, x, k, n, e3, h1, h2, hg, hst⟩
  · exact absurd h hk
  · rw [e3, lex_err (h2 c r hc) hn]; intro h; cases h
  · rw [e3, lex_tok (skip_tok h2 hg x) hg hst]; intro _; simp
end Go.Proofs.Ytjcaingfeaaakaa.Lx
