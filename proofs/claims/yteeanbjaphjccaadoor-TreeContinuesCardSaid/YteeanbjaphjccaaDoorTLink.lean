/-
  A link proves that the root of a list extends that of its first elements; its length and elements; and it proves nothing else, unless two different texts with one digest are among those that are digested.
-/
import Derived.Test.YteeanbjaphjccaaDoorTBind
namespace Go.Proofs.YteeanbjaphjccaaDoor.Tr

/-- P2.5: the link of m in a list leads to both roots. -/
theorem link_both : ∀ (n : Nat) (l : List T) (m : Nat) (whole : Bool) (old : T), l.length = n → 0 < m → m ≤ n → (whole = true → old = root (l.take m)) →
    both n m whole old (link l m whole) = (root (l.take m), root l) := by
  intro n
  induction n using Nat.strongRecOn with
  | ind n ih =>
    intro l m whole old hl h0 hm ho
    by_cases e : m = n
    · rw [both_all e, link_all (by omega), List.take_of_length_le (by omega)]
      rw [List.take_of_length_le (by omega)] at ho
      cases whole with
      | true => rw [if_pos rfl, ho rfl]
      | false => rw [if_neg (by simp), if_neg (by simp)]; rfl
    · have h2 : 2 ≤ n := by omega
      have hk := half_pos n
      have hk2 := half_lt h2
      have rl := root_two (l := l) (by omega)
      rw [hl] at rl
      by_cases hmk : m ≤ half n
      · have hp := link_left (l := l) (m := m) (whole := whole) (by omega) (by omega) (by rw [hl]; exact hmk)
        rw [hl] at hp
        rw [both_left e h2 hmk, hp, List.dropLast_concat, List.getLastD_concat]
        rw [ih (half n) hk2 (l.take (half n)) m whole old (by rw [List.length_take]; omega) h0 hmk (fun h => by rw [ho h, List.take_take, Nat.min_eq_left hmk])]
        rw [List.take_take, Nat.min_eq_left hmk, rl]
      · have hp := link_right (l := l) (m := m) (whole := whole) (by omega) (by omega) (by rw [hl]; exact hmk)
        rw [hl] at hp
        rw [both_right e h2 hmk, hp, List.dropLast_concat, List.getLastD_concat]
        rw [ih (n - half n) (by omega) (l.drop (half n)) (m - half n) false old (by rw [List.length_drop]; omega) (by omega) (by omega) (fun h => by cases h)]
        have rm := root_two (l := l.take m) (by rw [List.length_take]; omega)
        have lm : (l.take m).length = m := by rw [List.length_take]; omega
        rw [lm, half_mid h2 (by omega) hm, List.take_take, Nat.min_eq_left (by omega), List.drop_take] at rm
        rw [rm, rl]

theorem link_length : ∀ (n : Nat) (l : List T) (m : Nat) (whole : Bool), l.length = n → (link l m whole).length = llen n m whole := by
  intro n
  induction n using Nat.strongRecOn with
  | ind n ih =>
    intro l m whole hl
    by_cases e : m = n
    · rw [link_all (by omega), llen_all e]; cases whole <;> rfl
    · by_cases h1 : n ≤ 1
      · rw [link, if_neg (by omega), dif_pos (by omega), llen, if_neg e, dif_pos h1]; rfl
      · have hk := half_pos n
        have hk2 := half_lt (n := n) (by omega)
        by_cases hmk : m ≤ half n
        · have hp := link_left (l := l) (m := m) (whole := whole) (by omega) (by omega) (by rw [hl]; exact hmk)
          rw [hl] at hp
          rw [hp, llen_left e (by omega) hmk, List.length_append, ih (half n) hk2 _ _ _ (by rw [List.length_take]; omega)]; rfl
        · have hp := link_right (l := l) (m := m) (whole := whole) (by omega) (by omega) (by rw [hl]; exact hmk)
          rw [hl] at hp
          rw [hp, llen_right e (by omega) hmk, List.length_append, ih (n - half n) (by omega) _ _ _ (by rw [List.length_drop]; omega)]; rfl

theorem link_digests : ∀ (n : Nat) (l : List T) (m : Nat) (whole : Bool), l.length = n → (link l m whole).all Dg.isDigest = true := by
  intro n
  induction n using Nat.strongRecOn with
  | ind n ih =>
    intro l m whole hl
    by_cases e : m = n
    · rw [link_all (by omega)]; cases whole <;> simp [root_isDigest]
    · by_cases h1 : n ≤ 1
      · rw [link, if_neg (by omega), dif_pos (by omega)]; rfl
      · have hk := half_pos n
        have hk2 := half_lt (n := n) (by omega)
        by_cases hmk : m ≤ half n
        · rw [link_left (by omega) (by omega) (by rw [hl]; exact hmk), List.all_append, ih (half n) hk2 _ _ _ (by rw [List.length_take, hl]; omega)]; simp [root_isDigest]
        · rw [link_right (by omega) (by omega) (by rw [hl]; exact hmk), List.all_append, ih (n - half n) (by omega) _ _ _ (by rw [List.length_drop, hl])]; simp [root_isDigest]

theorem llen_pos {n m : Nat} {whole : Bool} (h2 : 2 ≤ n) (h : m ≠ n) : 0 < llen n m whole := by
  by_cases hi : m ≤ half n
  · rw [llen_left h h2 hi]; omega
  · rw [llen_right h h2 hi]; omega
theorem half_pow {n d : Nat} (h2 : 2 ≤ n) (h : n ≤ 2 ^ (d + 1)) : half n ≤ 2 ^ d := by
  unfold half
  apply Nat.pow_le_pow_right (by omega)
  have := (Nat.log2_lt (n := n - 1) (k := d + 1) (by omega)).2 (by omega)
  omega
theorem llen_le : ∀ (d n m : Nat) (whole : Bool), n ≤ 2 ^ d → llen n m whole ≤ d + 1 := by
  intro d
  induction d with
  | zero =>
    intro n m whole h
    have h1 : n ≤ 1 := by simpa using h
    rw [llen]; split
    · split <;> omega
    · omega
  | succ d ih =>
    intro n m whole h
    by_cases e : m = n
    · rw [llen_all e]; split <;> omega
    · by_cases h1 : n ≤ 1
      · rw [llen, if_neg e, dif_pos h1]; omega
      · have hk := half_ge (n := n) (by omega)
        have hk2 := half_lt (n := n) (by omega)
        have hk3 := half_pow (n := n) (d := d) (by omega) h
        by_cases hi : m ≤ half n
        · rw [llen_left e (by omega) hi]; have := ih (half n) m whole hk3; omega
        · rw [llen_right e (by omega) hi]; have := ih (n - half n) (m - half n) false (by omega); omega

/-- P2.6: what a link proves. -/
theorem link_bind : ∀ (n : Nat) (l : List T) (m : Nat) (whole : Bool) (old x : T) (p : List T), l.length = n → 0 < m → m ≤ n → both n m whole old p = (x, root l) →
    x = root (l.take m) ∨ Shown (texts l ++ ltexts n m whole old p) := by
  intro n
  induction n using Nat.strongRecOn with
  | ind n ih =>
    intro l m whole old x p hl h0 hm h
    by_cases e : m = n
    · rw [both_all e] at h
      rw [List.take_of_length_le (by omega)]
      refine Or.inl ?_
      cases whole with
      | true => rw [if_pos rfl] at h; have h1 := congrArg Prod.fst h; have h2 := congrArg Prod.snd h; exact h1.symm.trans h2
      | false => rw [if_neg (by simp)] at h; have h1 := congrArg Prod.fst h; have h2 := congrArg Prod.snd h; exact h1.symm.trans h2
    · have h2 : 2 ≤ n := by omega
      have hk := half_pos n
      have hk2 := half_lt h2
      have rl := root_two (l := l) (by omega)
      have tl := texts_two (l := l) (by omega)
      rw [hl] at rl tl
      by_cases hmk : m ≤ half n
      · have tp := ltexts_left (whole := whole) (old := old) (p := p) e h2 hmk
        rw [both_left e h2 hmk] at h
        have hf := congrArg Prod.fst h
        have hs := congrArg Prod.snd h
        simp only at hf hs
        rw [rl] at hs
        rcases node_eq (ts := texts l ++ ltexts n m whole old p) hs (by rw [tp]; simp) (by rw [tl]; simp) with ⟨f, _⟩ | f
        · rcases ih (half n) hk2 (l.take (half n)) m whole old x p.dropLast (by rw [List.length_take]; omega) h0 hmk (Prod.ext hf f) with g | g
          · exact Or.inl (by rw [g, List.take_take, Nat.min_eq_left hmk])
          · exact Or.inr (g.sub (by rw [tl, tp]; intro y hy; simp only [List.mem_append] at hy ⊢; rcases hy with hy | hy <;> simp [hy]))
        · exact Or.inr f
      · have tp := ltexts_right (whole := whole) (old := old) (p := p) e h2 hmk
        rw [both_right e h2 hmk] at h
        have hf := congrArg Prod.fst h
        have hs := congrArg Prod.snd h
        simp only at hf hs
        rw [rl] at hs
        rcases node_eq (ts := texts l ++ ltexts n m whole old p) hs (by rw [tp]; simp) (by rw [tl]; simp) with ⟨f0, f⟩ | f
        · rcases ih (n - half n) (by omega) (l.drop (half n)) (m - half n) false old _ p.dropLast (by rw [List.length_drop]; omega) (by omega) (by omega) (Prod.ext rfl f) with g | g
          · have rm := root_two (l := l.take m) (by rw [List.length_take]; omega)
            have lm : (l.take m).length = m := by rw [List.length_take]; omega
            rw [lm, half_mid h2 (by omega) hm, List.take_take, Nat.min_eq_left (by omega), List.drop_take] at rm
            exact Or.inl (by rw [← hf, f0, rm]; exact congrArg (node _) g)
          · exact Or.inr (g.sub (by rw [tl, tp]; intro y hy; simp only [List.mem_append] at hy ⊢; rcases hy with hy | hy <;> simp [hy]))
        · exact Or.inr f

/-- P2.6 for two lists: the first one is the beginning, or two texts are shown. -/
theorem continues (a l p : List T) (h0 : 0 < a.length) (hm : a.length ≤ l.length) (h : both l.length a.length true (root a) p = (root a, root l)) :
    a = l.take a.length ∨ Shown (texts a ++ texts l ++ texts (l.take a.length) ++ ltexts l.length a.length true (root a) p) := by
  rcases link_bind _ l a.length true _ _ p rfl h0 hm h with e | e
  · rcases roots_bind a.length a (l.take a.length) rfl (by rw [List.length_take]; omega) e with f | f
    · exact Or.inl f
    · exact Or.inr (f.sub (by intro y hy; simp only [List.mem_append] at hy ⊢; rcases hy with hy | hy <;> simp [hy]))
  · exact Or.inr (e.sub (by intro y hy; simp only [List.mem_append] at hy ⊢; rcases hy with hy | hy <;> simp [hy]))
theorem continues_all (a l : List T) (he : a.length = l.length) (h : root a = root l) (p : List T) :
    a = l.take a.length ∨ Shown (texts a ++ texts l ++ texts (l.take a.length) ++ ltexts l.length a.length true (root a) p) := by
  rw [he, List.take_length]
  rcases roots_bind l.length a l he rfl h with f | f
  · exact Or.inl f
  · exact Or.inr (f.sub (by intro y hy; simp only [List.mem_append] at hy ⊢; rcases hy with hy | hy <;> simp [hy]))
end Go.Proofs.YteeanbjaphjccaaDoor.Tr
