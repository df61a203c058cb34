/-
  What is digested for roots, paths and links; a path proves its element, and binds; equal roots bind; a link proves its beginning, and binds: each 'or two different texts with one digest are among those that are digested'.
-/
import Derived.Test.YtklfkhhefjjpaaaDoorTTree
namespace Go.Proofs.YtklfkhhefjjpaaaDoor.Tr

/-- What is digested for a root. -/
def texts (l : List T) : List T :=
  if _h0 : l.length = 0 then [Dg.join [wEmpty]]
  else if _h1 : l.length = 1 then [Dg.join [wLeaf, l.headD []]]
  else texts (l.take (half l.length)) ++ texts (l.drop (half l.length)) ++ [Dg.join [wNode, root (l.take (half l.length)), root (l.drop (half l.length))]]
termination_by l.length
decreasing_by
  · rw [List.length_take]; have := half_lt (n := l.length) (by omega); omega
  · rw [List.length_drop]; have := half_pos l.length; omega
theorem texts_nil : texts [] = [Dg.join [wEmpty]] := by rw [texts]; simp
theorem texts_one (s : T) : texts [s] = [Dg.join [wLeaf, s]] := by rw [texts]; simp
theorem texts_two {l : List T} (h : 2 ≤ l.length) :
    texts l = texts (l.take (half l.length)) ++ texts (l.drop (half l.length)) ++ [Dg.join [wNode, root (l.take (half l.length)), root (l.drop (half l.length))]] := by
  rw [texts, dif_neg (by omega), dif_neg (by omega)]

/-- What is digested to check a path. -/
def ptexts (n i : Nat) (s : T) (p : List T) : List T :=
  if _h : n ≤ 1 then [Dg.join [wLeaf, s]]
  else if i < half n then ptexts (half n) i s p.dropLast ++ [Dg.join [wNode, up (half n) i (leaf s) p.dropLast, p.getLastD []]]
  else ptexts (n - half n) (i - half n) s p.dropLast ++ [Dg.join [wNode, p.getLastD [], up (n - half n) (i - half n) (leaf s) p.dropLast]]
termination_by n
decreasing_by
  · exact half_lt (by omega)
  · have := half_pos n; omega
theorem ptexts_one {n i : Nat} {s : T} {p : List T} (h : n ≤ 1) : ptexts n i s p = [Dg.join [wLeaf, s]] := by rw [ptexts, dif_pos h]
theorem ptexts_left {n i : Nat} {s : T} {p : List T} (h : 2 ≤ n) (hi : i < half n) :
    ptexts n i s p = ptexts (half n) i s p.dropLast ++ [Dg.join [wNode, up (half n) i (leaf s) p.dropLast, p.getLastD []]] := by rw [ptexts, dif_neg (by omega), if_pos hi]
theorem ptexts_right {n i : Nat} {s : T} {p : List T} (h : 2 ≤ n) (hi : ¬ i < half n) :
    ptexts n i s p = ptexts (n - half n) (i - half n) s p.dropLast ++ [Dg.join [wNode, p.getLastD [], up (n - half n) (i - half n) (leaf s) p.dropLast]] := by
  rw [ptexts, dif_neg (by omega), if_neg hi]

/-- What is digested to check a link. -/
def ltexts (n m : Nat) (whole : Bool) (old : T) (p : List T) : List T :=
  if m = n then []
  else if _h : n ≤ 1 then []
  else if m ≤ half n then ltexts (half n) m whole old p.dropLast ++ [Dg.join [wNode, (both (half n) m whole old p.dropLast).2, p.getLastD []]]
  else ltexts (n - half n) (m - half n) false old p.dropLast ++ [Dg.join [wNode, p.getLastD [], (both (n - half n) (m - half n) false old p.dropLast).1]]
    ++ [Dg.join [wNode, p.getLastD [], (both (n - half n) (m - half n) false old p.dropLast).2]]
termination_by n
decreasing_by
  · exact half_lt (by omega)
  · have := half_pos n; omega
theorem ltexts_all {n m : Nat} {whole : Bool} {old : T} {p : List T} (h : m = n) : ltexts n m whole old p = [] := by rw [ltexts, if_pos h]
theorem ltexts_left {n m : Nat} {whole : Bool} {old : T} {p : List T} (h : m ≠ n) (h2 : 2 ≤ n) (hm : m ≤ half n) :
    ltexts n m whole old p = ltexts (half n) m whole old p.dropLast ++ [Dg.join [wNode, (both (half n) m whole old p.dropLast).2, p.getLastD []]] := by
  rw [ltexts, if_neg h, dif_neg (by omega), if_pos hm]
theorem ltexts_right {n m : Nat} {whole : Bool} {old : T} {p : List T} (h : m ≠ n) (h2 : 2 ≤ n) (hm : ¬ m ≤ half n) :
    ltexts n m whole old p = ltexts (n - half n) (m - half n) false old p.dropLast ++ [Dg.join [wNode, p.getLastD [], (both (n - half n) (m - half n) false old p.dropLast).1]]
      ++ [Dg.join [wNode, p.getLastD [], (both (n - half n) (m - half n) false old p.dropLast).2]] := by
  rw [ltexts, if_neg h, dif_neg (by omega), if_neg hm]

/-- Two different texts of the list have one digest. -/
def Shown (l : List T) : Prop := ∃ a ∈ l, ∃ b ∈ l, a ≠ b ∧ Dg.sum a = Dg.sum b
theorem Shown.sub {l m : List T} (h : Shown l) (hs : ∀ x ∈ l, x ∈ m) : Shown m := by
  obtain ⟨a, ha, b, hb, hab⟩ := h
  exact ⟨a, hs a ha, b, hs b hb, hab⟩
theorem li_eq {l m : List T} {ts : List T} (h : li l = li m) (hl : Dg.join l ∈ ts) (hm : Dg.join m ∈ ts) : l = m ∨ Shown ts := by
  by_cases e : Dg.join l = Dg.join m
  · exact Or.inl (Dg.join_inj l m e)
  · exact Or.inr ⟨_, hl, _, hm, e, h⟩
theorem node_eq {a b c d : T} {ts : List T} (h : node a b = node c d) (hl : Dg.join [wNode, a, b] ∈ ts) (hm : Dg.join [wNode, c, d] ∈ ts) : (a = c ∧ b = d) ∨ Shown ts := by
  rcases li_eq h hl hm with e | e
  · exact Or.inl (by simpa using e)
  · exact Or.inr e
theorem leaf_eq {a b : T} {ts : List T} (h : leaf a = leaf b) (hl : Dg.join [wLeaf, a] ∈ ts) (hm : Dg.join [wLeaf, b] ∈ ts) : a = b ∨ Shown ts := by
  rcases li_eq h hl hm with e | e
  · exact Or.inl (by simpa using e)
  · exact Or.inr e

/-- P2.4: equal roots of lists of one length. -/
theorem roots_bind : ∀ (n : Nat) (a b : List T), a.length = n → b.length = n → root a = root b → a = b ∨ Shown (texts a ++ texts b) := by
  intro n
  induction n using Nat.strongRecOn with
  | ind n ih =>
    intro a b ha hb h
    match n, ha, hb, ih with
    | 0, ha, hb, _ => exact Or.inl (by rw [List.length_eq_zero_iff.1 ha, List.length_eq_zero_iff.1 hb])
    | 1, ha, hb, _ =>
      obtain ⟨x, rfl⟩ := List.length_eq_one_iff.1 ha
      obtain ⟨y, rfl⟩ := List.length_eq_one_iff.1 hb
      rw [root_one, root_one] at h
      rcases leaf_eq (ts := texts [x] ++ texts [y]) h (by rw [texts_one]; simp) (by rw [texts_one, texts_one]; simp) with e | e
      · exact Or.inl (by rw [e])
      · exact Or.inr e
    | n + 2, ha, hb, ih =>
      have hk := half_pos (n + 2)
      have hk2 := half_lt (n := n + 2) (by omega)
      rw [root_two (l := a) (by omega), root_two (l := b) (by omega), ha, hb] at h
      have ta := texts_two (l := a) (by omega)
      have tb := texts_two (l := b) (by omega)
      rw [ha] at ta
      rw [hb] at tb
      rcases node_eq (ts := texts a ++ texts b) h (by rw [ta]; simp) (by rw [tb]; simp) with ⟨e1, e2⟩ | e
      · rcases ih (half (n + 2)) hk2 _ _ (by rw [List.length_take]; omega) (by rw [List.length_take]; omega) e1 with f1 | f1
        · rcases ih (n + 2 - half (n + 2)) (by omega) _ _ (by rw [List.length_drop]; omega) (by rw [List.length_drop]; omega) e2 with f2 | f2
          · exact Or.inl (by rw [← List.take_append_drop (half (n + 2)) a, f1, f2, List.take_append_drop])
          · exact Or.inr (f2.sub (by rw [ta, tb]; intro x hx; simp only [List.mem_append] at hx ⊢; rcases hx with hx | hx <;> simp [hx]))
        · exact Or.inr (f1.sub (by rw [ta, tb]; intro x hx; simp only [List.mem_append] at hx ⊢; rcases hx with hx | hx <;> simp [hx]))
      · exact Or.inr e

/-- P2.2: the path of an element proves it. -/
theorem path_up : ∀ (n : Nat) (l : List T) (i : Nat) (d : T), l.length = n → (hi : i < l.length) → d = leaf l[i] → up n i d (path l i) = root l := by
  intro n
  induction n using Nat.strongRecOn with
  | ind n ih =>
    intro l i d hl hi hd
    by_cases h1 : n ≤ 1
    · obtain ⟨x, rfl⟩ := List.length_eq_one_iff.1 (show l.length = 1 by omega)
      have : i = 0 := by simpa using hi
      subst this
      rw [up_one h1, hd, root_one]; rfl
    · have hk := half_pos n
      have hk2 := half_lt (n := n) (by omega)
      rw [root_two (by omega), hl]
      by_cases hik : i < half n
      · have hp := path_left (l := l) (i := i) (by omega) (by rw [hl]; exact hik)
        rw [hl] at hp
        rw [hp, up_left (by omega) hik, List.dropLast_concat, List.getLastD_concat]
        rw [ih (half n) hk2 (l.take (half n)) i d (by rw [List.length_take]; omega) (by rw [List.length_take]; omega) (by rw [hd, List.getElem_take])]
      · have hp := path_right (l := l) (i := i) (by omega) (by rw [hl]; exact hik)
        rw [hl] at hp
        rw [hp, up_right (by omega) hik, List.dropLast_concat, List.getLastD_concat]
        rw [ih (n - half n) (by omega) (l.drop (half n)) (i - half n) d (by rw [List.length_drop]; omega) (by rw [List.length_drop]; omega) (by rw [hd, List.getElem_drop]; simp only [show half n + (i - half n) = i by omega])]

theorem path_length : ∀ (n : Nat) (l : List T) (i : Nat), l.length = n → (path l i).length = plen n i := by
  intro n
  induction n using Nat.strongRecOn with
  | ind n ih =>
    intro l i hl
    by_cases h1 : n ≤ 1
    · rw [path_one (by omega), plen_one h1]; rfl
    · have hk := half_pos n
      have hk2 := half_lt (n := n) (by omega)
      by_cases hik : i < half n
      · have hp := path_left (l := l) (i := i) (by omega) (by rw [hl]; exact hik)
        rw [hl] at hp
        rw [hp, plen_left (by omega) hik, List.length_append, ih (half n) hk2 _ _ (by rw [List.length_take]; omega)]; rfl
      · have hp := path_right (l := l) (i := i) (by omega) (by rw [hl]; exact hik)
        rw [hl] at hp
        rw [hp, plen_right (by omega) hik, List.length_append, ih (n - half n) (by omega) _ _ (by rw [List.length_drop]; omega)]; rfl

theorem plen_pos {n i : Nat} (h : 2 ≤ n) : 0 < plen n i := by
  by_cases hi : i < half n
  · rw [plen_left h hi]; omega
  · rw [plen_right h hi]; omega
theorem plen_le : ∀ (d n i : Nat), n ≤ 2 ^ d → plen n i ≤ d := by
  intro d
  induction d with
  | zero => intro n i h; rw [plen_one (by simpa using h)]; omega
  | succ d ih =>
    intro n i h
    by_cases h1 : n ≤ 1
    · rw [plen_one h1]; omega
    · have hk := half_ge (n := n) (by omega)
      have hk2 := half_lt (n := n) (by omega)
      have hk3 : half n ≤ 2 ^ d := by
        unfold half
        apply Nat.pow_le_pow_right (by omega)
        have := (Nat.log2_lt (n := n - 1) (k := d + 1) (by omega)).2 (by omega)
        omega
      by_cases hi : i < half n
      · rw [plen_left (by omega) hi]; have := ih (half n) i hk3; omega
      · rw [plen_right (by omega) hi]; have := ih (n - half n) (i - half n) (by omega); omega

theorem root_isDigest (l : List T) : Dg.isDigest (root l) = true := by
  rw [root]; split
  · exact Dg.sum_isDigest _
  · split <;> exact Dg.sum_isDigest _
theorem path_digests : ∀ (n : Nat) (l : List T) (i : Nat), l.length = n → (path l i).all Dg.isDigest = true := by
  intro n
  induction n using Nat.strongRecOn with
  | ind n ih =>
    intro l i hl
    by_cases h1 : n ≤ 1
    · rw [path_one (by omega)]; rfl
    · have hk := half_pos n
      have hk2 := half_lt (n := n) (by omega)
      by_cases hik : i < half n
      · rw [path_left (by omega) (by rw [hl]; exact hik), List.all_append, ih (half n) hk2 _ _ (by rw [List.length_take, hl]; omega)]; simp [root_isDigest]
      · rw [path_right (by omega) (by rw [hl]; exact hik), List.all_append, ih (n - half n) (by omega) _ _ (by rw [List.length_drop, hl])]; simp [root_isDigest]

/-- P2.3: a path that proves a string at an index. -/
theorem path_bind : ∀ (n : Nat) (l : List T) (i : Nat) (s : T) (p : List T), l.length = n → (hi : i < l.length) → up n i (leaf s) p = root l → s = l[i] ∨ Shown (texts l ++ ptexts n i s p) := by
  intro n
  induction n using Nat.strongRecOn with
  | ind n ih =>
    intro l i s p hl hi h
    by_cases h1 : n ≤ 1
    · obtain ⟨x, rfl⟩ := List.length_eq_one_iff.1 (show l.length = 1 by omega)
      have : i = 0 := by simpa using hi
      subst this
      rw [up_one h1, root_one] at h
      rw [ptexts_one h1, texts_one]
      exact leaf_eq h (by simp) (by simp)
    · have hk := half_pos n
      have hk2 := half_lt (n := n) (by omega)
      have tl := texts_two (l := l) (by omega)
      rw [hl] at tl
      rw [root_two (by omega), hl] at h
      by_cases hik : i < half n
      · have tp := ptexts_left (n := n) (i := i) (s := s) (p := p) (by omega) hik
        rw [up_left (by omega) hik] at h
        rcases node_eq (ts := texts l ++ ptexts n i s p) h (by rw [tp]; simp) (by rw [tl]; simp) with ⟨e, _⟩ | e
        · rcases ih (half n) hk2 (l.take (half n)) i s _ (by rw [List.length_take]; omega) (by rw [List.length_take]; omega) e with f | f
          · exact Or.inl (by rw [f, List.getElem_take])
          · exact Or.inr (f.sub (by rw [tl, tp]; intro x hx; simp only [List.mem_append] at hx ⊢; rcases hx with hx | hx <;> simp [hx]))
        · exact Or.inr e
      · have tp := ptexts_right (n := n) (i := i) (s := s) (p := p) (by omega) hik
        rw [up_right (by omega) hik] at h
        rcases node_eq (ts := texts l ++ ptexts n i s p) h (by rw [tp]; simp) (by rw [tl]; simp) with ⟨_, e⟩ | e
        · rcases ih (n - half n) (by omega) (l.drop (half n)) (i - half n) s _ (by rw [List.length_drop]; omega) (by rw [List.length_drop]; omega) e with f | f
          · exact Or.inl (by rw [f, List.getElem_drop]; simp only [show half n + (i - half n) = i by omega])
          · exact Or.inr (f.sub (by rw [tl, tp]; intro x hx; simp only [List.mem_append] at hx ⊢; rcases hx with hx | hx <;> simp [hx]))
        · exact Or.inr e
end Go.Proofs.YtklfkhhefjjpaaaDoor.Tr
