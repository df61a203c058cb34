/-
  Trees of 2^p strings: a path has p digests; it is climbed from the leaf upwards by the binary digits of the index; a way that ends in the root of a list of 2^h strings is the path of its string, or two different texts with one digest are shown.
-/
import Derived.Test.YtklfkhhefjjpaaaDoorTBind
namespace Go.Proofs.YtklfkhhefjjpaaaDoor.Tr

theorem half_two (p : Nat) : half (2 ^ (p + 1)) = 2 ^ p := half_eq (Nat.pow_lt_pow_right (by decide) (by omega)) (Nat.le_refl _)

/-- From a leaf upwards. -/
def climb (d : T) (i : Nat) : List T → T
  | [] => d
  | x :: p => climb (if i % 2 = 1 then node x d else node d x) (i / 2) p
/-- What is digested on this way. -/
def ctexts (d : T) (i : Nat) : List T → List T
  | [] => []
  | x :: p => Dg.join (if i % 2 = 1 then [wNode, x, d] else [wNode, d, x]) :: ctexts (if i % 2 = 1 then node x d else node d x) (i / 2) p

theorem climb_snoc (x : T) : ∀ (p : List T) (d : T) (i : Nat), climb d i (p ++ [x]) = if i / 2 ^ p.length % 2 = 1 then node x (climb d i p) else node (climb d i p) x := by
  intro p
  induction p with
  | nil => intro d i; simp [climb]
  | cons y p ih =>
    intro d i
    rw [List.cons_append, climb, ih, climb, List.length_cons, Nat.div_div_eq_div_mul, Nat.pow_succ, Nat.mul_comm]
theorem ctexts_snoc (x : T) : ∀ (p : List T) (d : T) (i : Nat), ctexts d i (p ++ [x]) = ctexts d i p ++ [Dg.join (if i / 2 ^ p.length % 2 = 1 then [wNode, x, climb d i p] else [wNode, climb d i p, x])] := by
  intro p
  induction p with
  | nil => intro d i; simp [climb, ctexts]
  | cons y p ih =>
    intro d i
    rw [List.cons_append, ctexts, ih, ctexts, climb, List.length_cons, Nat.div_div_eq_div_mul, Nat.pow_succ, Nat.mul_comm, List.cons_append]
theorem low_div (i n : Nat) : i % 2 ^ (n + 1) / 2 = i / 2 % 2 ^ n := by rw [Nat.pow_succ, Nat.mul_comm]; exact Nat.mod_mul_right_div_self i 2 (2 ^ n)
theorem low_mod (i n : Nat) : i % 2 ^ (n + 1) % 2 = i % 2 := Nat.mod_mod_of_dvd _ ⟨2 ^ n, by rw [Nat.pow_succ, Nat.mul_comm]⟩
theorem climb_low : ∀ (p : List T) (d : T) (i : Nat), climb d (i % 2 ^ p.length) p = climb d i p := by
  intro p
  induction p with
  | nil => intro d i; rfl
  | cons y p ih => intro d i; rw [climb, climb, List.length_cons, low_mod, low_div, ih]
theorem ctexts_low : ∀ (p : List T) (d : T) (i : Nat), ctexts d (i % 2 ^ p.length) p = ctexts d i p := by
  intro p
  induction p with
  | nil => intro d i; rfl
  | cons y p ih => intro d i; rw [ctexts, ctexts, List.length_cons, low_mod, low_div, ih]

theorem snoc_of {p : Nat} {l : List T} (hl : l.length = p + 1) : ∃ q x, l = q ++ [x] ∧ q.length = p ∧ l.dropLast = q ∧ l.getLastD [] = x := by
  rcases List.eq_nil_or_concat l with e | ⟨q, x, e⟩
  · rw [e] at hl; simp at hl
  · subst e
    refine ⟨q, x, by simp, by simpa using hl, by simp, by simp⟩

theorem high_half {p i : Nat} (hi : i < 2 ^ (p + 1)) (h : ¬ i < 2 ^ p) : i / 2 ^ p % 2 = 1 ∧ i - 2 ^ p = i % 2 ^ p ∧ i - 2 ^ p < 2 ^ p := by
  rw [Nat.pow_succ] at hi
  have e : i / 2 ^ p = 1 := Nat.div_eq_of_lt_le (by omega) (by omega)
  have m := Nat.div_add_mod i (2 ^ p)
  rw [e] at m
  exact ⟨by rw [e], by omega, by omega⟩

theorem up_climb : ∀ (p i : Nat) (d : T) (l : List T), l.length = p → i < 2 ^ p → up (2 ^ p) i d l = climb d i l := by
  intro p
  induction p with
  | zero => intro i d l hl hi; rw [up_one (by decide), List.length_eq_zero_iff.1 hl]; rfl
  | succ p ih =>
    intro i d l hl hi
    obtain ⟨q, x, rfl, hq, e1, e2⟩ := snoc_of hl
    have h2 : 2 ≤ 2 ^ (p + 1) := by rw [Nat.pow_succ]; have := Nat.two_pow_pos p; omega
    rw [climb_snoc, hq]
    by_cases h : i < 2 ^ p
    · rw [up_left h2 (by rw [half_two]; exact h), half_two, e1, e2, ih i d q hq h, Nat.div_eq_of_lt h, if_neg (by decide)]
    · obtain ⟨a, b, c⟩ := high_half hi h
      rw [up_right h2 (by rw [half_two]; exact h), half_two, e1, e2, show 2 ^ (p + 1) - 2 ^ p = 2 ^ p by rw [Nat.pow_succ]; omega, ih _ d q hq c, if_pos a, b, ← hq, climb_low]

theorem ptexts_climb : ∀ (p i : Nat) (s : T) (l : List T), l.length = p → i < 2 ^ p → ptexts (2 ^ p) i s l = Dg.join [wLeaf, s] :: ctexts (leaf s) i l := by
  intro p
  induction p with
  | zero => intro i d l hl hi; rw [ptexts_one (by decide), List.length_eq_zero_iff.1 hl]; rfl
  | succ p ih =>
    intro i s l hl hi
    obtain ⟨q, x, rfl, hq, e1, e2⟩ := snoc_of hl
    have h2 : 2 ≤ 2 ^ (p + 1) := by rw [Nat.pow_succ]; have := Nat.two_pow_pos p; omega
    rw [ctexts_snoc, hq]
    by_cases h : i < 2 ^ p
    · rw [ptexts_left h2 (by rw [half_two]; exact h), half_two, e1, e2, ih i s q hq h, up_climb p i _ q hq h, Nat.div_eq_of_lt h, if_neg (by decide), List.cons_append]
    · obtain ⟨a, b, c⟩ := high_half hi h
      rw [ptexts_right h2 (by rw [half_two]; exact h), half_two, e1, e2, show 2 ^ (p + 1) - 2 ^ p = 2 ^ p by rw [Nat.pow_succ]; omega, ih _ s q hq c, up_climb p _ _ q hq c, if_pos a, b, ← hq, climb_low, ctexts_low, List.cons_append]

theorem node_leaf {a b s : T} {ts : List T} (h : node a b = leaf s) (hl : Dg.join [wNode, a, b] ∈ ts) (hm : Dg.join [wLeaf, s] ∈ ts) : Shown ts := by
  rcases li_eq h hl hm with e | e
  · simp [wNode, wLeaf] at e
  · exact e

/-- A way of p digests that ends in the root of 2^h strings. -/
theorem two_bind : ∀ (h p : Nat) (l : List T) (i : Nat) (s : T) (q : List T), l.length = 2 ^ h → i < 2 ^ p → q.length = p → up (2 ^ p) i (leaf s) q = root l →
    (p = h ∧ l[i]? = some s ∧ q = path l i) ∨ Shown (texts l ++ ptexts (2 ^ p) i s q) := by
  intro h
  induction h with
  | zero =>
    intro p l i s q hl hi hq hr
    obtain ⟨x, rfl⟩ := List.length_eq_one_iff.1 (show l.length = 1 by simpa using hl)
    cases p with
    | zero =>
      have : i = 0 := by simpa using hi
      subst this
      rw [up_one (by decide), root_one] at hr
      rcases leaf_eq (ts := texts [x] ++ ptexts (2 ^ 0) 0 s q) hr (by rw [ptexts_one (by decide)]; simp) (by rw [texts_one]; simp) with e | e
      · exact Or.inl ⟨rfl, by rw [e]; rfl, by rw [path_one (by simp), List.length_eq_zero_iff.1 hq]⟩
      · exact Or.inr e
    | succ p =>
      have h2 : 2 ≤ 2 ^ (p + 1) := by rw [Nat.pow_succ]; have := Nat.two_pow_pos p; omega
      right
      rw [root_one] at hr
      by_cases hh : i < half (2 ^ (p + 1))
      · rw [up_left h2 hh] at hr
        exact node_leaf hr (by rw [ptexts_left h2 hh]; simp) (by rw [texts_one]; simp)
      · rw [up_right h2 hh] at hr
        exact node_leaf hr (by rw [ptexts_right h2 hh]; simp) (by rw [texts_one]; simp)
  | succ h ih =>
    intro p l i s q hl hi hq hr
    have g2 : 2 ≤ 2 ^ (h + 1) := by rw [Nat.pow_succ]; have := Nat.two_pow_pos h; omega
    have tl := texts_two (l := l) (by omega)
    rw [root_two (by omega), hl, half_two] at hr
    rw [hl, half_two] at tl
    have l1 : (l.take (2 ^ h)).length = 2 ^ h := by rw [List.length_take, hl, Nat.pow_succ]; omega
    have l2 : (l.drop (2 ^ h)).length = 2 ^ h := by rw [List.length_drop, hl, Nat.pow_succ]; omega
    cases p with
    | zero =>
      right
      rw [up_one (by decide)] at hr
      exact node_leaf hr.symm (by rw [tl]; simp) (by rw [ptexts_one (by decide)]; simp)
    | succ p =>
      have h2 : 2 ≤ 2 ^ (p + 1) := by rw [Nat.pow_succ]; have := Nat.two_pow_pos p; omega
      obtain ⟨q, x, rfl, hq', e1, e2⟩ := snoc_of hq
      by_cases hh : i < 2 ^ p
      · have tp := ptexts_left (n := 2 ^ (p + 1)) (i := i) (s := s) (p := q ++ [x]) h2 (by rw [half_two]; exact hh)
        rw [up_left h2 (by rw [half_two]; exact hh), half_two, e1, e2] at hr
        rw [half_two, e1, e2] at tp
        rcases node_eq (ts := texts l ++ ptexts (2 ^ (p + 1)) i s (q ++ [x])) hr (by rw [tp]; simp) (by rw [tl]; simp) with ⟨f1, f2⟩ | e
        · rcases ih p (l.take (2 ^ h)) i s q l1 hh hq' f1 with ⟨rfl, f3, f4⟩ | f
          · refine Or.inl ⟨rfl, ?_, ?_⟩
            · rw [← f3, List.getElem?_take, if_pos hh]
            · rw [path_left (by omega) (by rw [hl, half_two]; exact hh), hl, half_two, ← f4, f2]
          · exact Or.inr (f.sub (by rw [tl, tp]; intro y hy; simp only [List.mem_append] at hy ⊢; rcases hy with hy | hy <;> simp [hy]))
        · exact Or.inr e
      · obtain ⟨_, _, c⟩ := high_half hi hh
        have tp := ptexts_right (n := 2 ^ (p + 1)) (i := i) (s := s) (p := q ++ [x]) h2 (by rw [half_two]; exact hh)
        rw [up_right h2 (by rw [half_two]; exact hh), half_two, e1, e2, show 2 ^ (p + 1) - 2 ^ p = 2 ^ p by rw [Nat.pow_succ]; omega] at hr
        rw [half_two, e1, e2, show 2 ^ (p + 1) - 2 ^ p = 2 ^ p by rw [Nat.pow_succ]; omega] at tp
        rcases node_eq (ts := texts l ++ ptexts (2 ^ (p + 1)) i s (q ++ [x])) hr (by rw [tp]; simp) (by rw [tl]; simp) with ⟨f2, f1⟩ | e
        · rcases ih p (l.drop (2 ^ h)) (i - 2 ^ p) s q l2 c hq' f1 with ⟨rfl, f3, f4⟩ | f
          · refine Or.inl ⟨rfl, ?_, ?_⟩
            · rw [← f3, List.getElem?_drop, show 2 ^ p + (i - 2 ^ p) = i by omega]
            · rw [path_right (by omega) (by rw [hl, half_two]; exact hh), hl, half_two, ← f4, f2]
          · exact Or.inr (f.sub (by rw [tl, tp]; intro y hy; simp only [List.mem_append] at hy ⊢; rcases hy with hy | hy <;> simp [hy]))
        · exact Or.inr e

theorem plen_two : ∀ (p i : Nat), i < 2 ^ p → plen (2 ^ p) i = p := by
  intro p
  induction p with
  | zero => intro i _; exact plen_one (by decide)
  | succ p ih =>
    intro i hi
    have h2 : 2 ≤ 2 ^ (p + 1) := by rw [Nat.pow_succ]; have := Nat.two_pow_pos p; omega
    by_cases h : i < 2 ^ p
    · rw [plen_left h2 (by rw [half_two]; exact h), half_two, ih i h]
    · obtain ⟨_, _, c⟩ := high_half hi h
      rw [plen_right h2 (by rw [half_two]; exact h), half_two, show 2 ^ (p + 1) - 2 ^ p = 2 ^ p by rw [Nat.pow_succ]; omega, ih _ c]
end Go.Proofs.YtklfkhhefjjpaaaDoor.Tr
