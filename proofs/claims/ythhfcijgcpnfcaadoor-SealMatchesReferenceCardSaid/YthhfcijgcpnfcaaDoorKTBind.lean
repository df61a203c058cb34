import Derived.Test.YthhfcijgcpnfcaaDoorKDList
import Derived.Test.YthhfcijgcpnfcaaDoorKDMath
/-
  Trees over lists of texts in arithmetic: roots, paths, links, what is computed from them, and what is digested; a path and a link prove what they are made of, and prove nothing else unless two different texts with one digest are among those that are digested.
-/
namespace Go.Proofs.YthhfcijgcpnfcaaDoor.Tr
abbrev T := List UInt8
/-- The greatest power of two below n, for n from 2 on. -/
def half (n : Nat) : Nat := 2 ^ Nat.log2 (n - 1)
theorem half_pos (n : Nat) : 0 < half n := Nat.two_pow_pos _
theorem half_lt {n : Nat} (h : 2 ≤ n) : half n < n := by
  have := Nat.log2_self_le (n := n - 1) (by omega)
  unfold half; omega
theorem half_ge {n : Nat} (h : 2 ≤ n) : n ≤ 2 * half n := by
  have := Nat.lt_log2_self (n := n - 1)
  unfold half; rw [Nat.pow_succ] at this; omega
theorem half_eq {n e : Nat} (h1 : 2 ^ e < n) (h2 : n ≤ 2 ^ (e + 1)) : half n = 2 ^ e := by
  unfold half
  have h0 := Nat.two_pow_pos e
  rw [(Nat.log2_eq_iff (n := n - 1) (k := e) (by omega)).2 ⟨by omega, by omega⟩]
theorem half_mid {m n : Nat} (h2 : 2 ≤ n) (h : half n < m) (hm : m ≤ n) : half m = half n := by
  have h3 := half_ge h2
  unfold half at h h3 ⊢
  exact half_eq h (by rw [Nat.pow_succ]; omega)

def wNode : T := [110, 111, 100, 101]
def wLeaf : T := [108, 101, 97, 102]
def wEmpty : T := [101, 109, 112, 116, 121]
def li (l : List T) : T := Dg.sum (Dg.join l)
def node (a b : T) : T := li [wNode, a, b]
def leaf (s : T) : T := li [wLeaf, s]
def empty : T := li [wEmpty]

/-- B1: the root of a list. -/
def root (l : List T) : T :=
  if _h0 : l.length = 0 then empty
  else if _h1 : l.length = 1 then leaf (l.headD [])
  else node (root (l.take (half l.length))) (root (l.drop (half l.length)))
termination_by l.length
decreasing_by
  · rw [List.length_take]; have := half_lt (n := l.length) (by omega); omega
  · rw [List.length_drop]; have := half_pos l.length; omega

theorem root_nil : root [] = empty := by rw [root]; simp
theorem root_one (s : T) : root [s] = leaf s := by rw [root]; simp
theorem root_two {l : List T} (h : 2 ≤ l.length) : root l = node (root (l.take (half l.length))) (root (l.drop (half l.length))) := by
  rw [root, dif_neg (by omega), dif_neg (by omega)]

/-- B1: the path of an element. -/
def path (l : List T) (i : Nat) : List T :=
  if _h : l.length ≤ 1 then []
  else if i < half l.length then path (l.take (half l.length)) i ++ [root (l.drop (half l.length))]
  else path (l.drop (half l.length)) (i - half l.length) ++ [root (l.take (half l.length))]
termination_by l.length
decreasing_by
  · rw [List.length_take]; have := half_lt (n := l.length) (by omega); omega
  · rw [List.length_drop]; have := half_pos l.length; omega

theorem path_one {l : List T} {i : Nat} (h : l.length ≤ 1) : path l i = [] := by rw [path, dif_pos h]
theorem path_left {l : List T} {i : Nat} (h : 2 ≤ l.length) (hi : i < half l.length) : path l i = path (l.take (half l.length)) i ++ [root (l.drop (half l.length))] := by
  rw [path, dif_neg (by omega), if_pos hi]
theorem path_right {l : List T} {i : Nat} (h : 2 ≤ l.length) (hi : ¬ i < half l.length) : path l i = path (l.drop (half l.length)) (i - half l.length) ++ [root (l.take (half l.length))] := by
  rw [path, dif_neg (by omega), if_neg hi]

/-- How long a path is. -/
def plen (n i : Nat) : Nat :=
  if _h : n ≤ 1 then 0 else if i < half n then plen (half n) i + 1 else plen (n - half n) (i - half n) + 1
termination_by n
decreasing_by
  · exact half_lt (by omega)
  · have := half_pos n; omega
theorem plen_one {n i : Nat} (h : n ≤ 1) : plen n i = 0 := by rw [plen, dif_pos h]
theorem plen_left {n i : Nat} (h : 2 ≤ n) (hi : i < half n) : plen n i = plen (half n) i + 1 := by rw [plen, dif_neg (by omega), if_pos hi]
theorem plen_right {n i : Nat} (h : 2 ≤ n) (hi : ¬ i < half n) : plen n i = plen (n - half n) (i - half n) + 1 := by rw [plen, dif_neg (by omega), if_neg hi]

/-- B2: what is computed from a digest and a path. -/
def up (n i : Nat) (d : T) (p : List T) : T :=
  if _h : n ≤ 1 then d
  else if i < half n then node (up (half n) i d p.dropLast) (p.getLastD [])
  else node (p.getLastD []) (up (n - half n) (i - half n) d p.dropLast)
termination_by n
decreasing_by
  · exact half_lt (by omega)
  · have := half_pos n; omega
theorem up_one {n i : Nat} {d : T} {p : List T} (h : n ≤ 1) : up n i d p = d := by rw [up, dif_pos h]
theorem up_left {n i : Nat} {d : T} {p : List T} (h : 2 ≤ n) (hi : i < half n) : up n i d p = node (up (half n) i d p.dropLast) (p.getLastD []) := by rw [up, dif_neg (by omega), if_pos hi]
theorem up_right {n i : Nat} {d : T} {p : List T} (h : 2 ≤ n) (hi : ¬ i < half n) : up n i d p = node (p.getLastD []) (up (n - half n) (i - half n) d p.dropLast) := by rw [up, dif_neg (by omega), if_neg hi]

/-- B3: the link of m in a list. -/
def link (l : List T) (m : Nat) (whole : Bool) : List T :=
  if m = l.length then (if whole then [] else [root l])
  else if _h : l.length ≤ 1 then []
  else if m ≤ half l.length then link (l.take (half l.length)) m whole ++ [root (l.drop (half l.length))]
  else link (l.drop (half l.length)) (m - half l.length) false ++ [root (l.take (half l.length))]
termination_by l.length
decreasing_by
  · rw [List.length_take]; have := half_lt (n := l.length) (by omega); omega
  · rw [List.length_drop]; have := half_pos l.length; omega
theorem link_all {l : List T} {m : Nat} {whole : Bool} (h : m = l.length) : link l m whole = (if whole then [] else [root l]) := by rw [link, if_pos h]
theorem link_left {l : List T} {m : Nat} {whole : Bool} (h : m ≠ l.length) (h2 : 2 ≤ l.length) (hm : m ≤ half l.length) :
    link l m whole = link (l.take (half l.length)) m whole ++ [root (l.drop (half l.length))] := by rw [link, if_neg h, dif_neg (by omega), if_pos hm]
theorem link_right {l : List T} {m : Nat} {whole : Bool} (h : m ≠ l.length) (h2 : 2 ≤ l.length) (hm : ¬ m ≤ half l.length) :
    link l m whole = link (l.drop (half l.length)) (m - half l.length) false ++ [root (l.take (half l.length))] := by rw [link, if_neg h, dif_neg (by omega), if_neg hm]

/-- How long a link is. -/
def llen (n m : Nat) (whole : Bool) : Nat :=
  if m = n then (if whole then 0 else 1)
  else if _h : n ≤ 1 then 0
  else if m ≤ half n then llen (half n) m whole + 1 else llen (n - half n) (m - half n) false + 1
termination_by n
decreasing_by
  · exact half_lt (by omega)
  · have := half_pos n; omega
theorem llen_all {n m : Nat} {whole : Bool} (h : m = n) : llen n m whole = (if whole then 0 else 1) := by rw [llen, if_pos h]
theorem llen_left {n m : Nat} {whole : Bool} (h : m ≠ n) (h2 : 2 ≤ n) (hm : m ≤ half n) : llen n m whole = llen (half n) m whole + 1 := by rw [llen, if_neg h, dif_neg (by omega), if_pos hm]
theorem llen_right {n m : Nat} {whole : Bool} (h : m ≠ n) (h2 : 2 ≤ n) (hm : ¬ m ≤ half n) : llen n m whole = llen (n - half n) (m - half n) false + 1 := by rw [llen, if_neg h, dif_neg (by omega), if_neg hm]

/-- B4: both roots that are computed from a link. -/
def both (n m : Nat) (whole : Bool) (old : T) (p : List T) : T × T :=
  if m = n then (if whole then (old, old) else (p.headD [], p.headD []))
  else if _h : n ≤ 1 then (old, old)
  else if m ≤ half n then (fun r : T × T => (r.1, node r.2 (p.getLastD []))) (both (half n) m whole old p.dropLast)
  else (fun r : T × T => (node (p.getLastD []) r.1, node (p.getLastD []) r.2)) (both (n - half n) (m - half n) false old p.dropLast)
termination_by n
decreasing_by
  · exact half_lt (by omega)
  · have := half_pos n; omega
theorem both_all {n m : Nat} {whole : Bool} {old : T} {p : List T} (h : m = n) : both n m whole old p = (if whole then (old, old) else (p.headD [], p.headD [])) := by rw [both, if_pos h]
theorem both_left {n m : Nat} {whole : Bool} {old : T} {p : List T} (h : m ≠ n) (h2 : 2 ≤ n) (hm : m ≤ half n) :
    both n m whole old p = ((both (half n) m whole old p.dropLast).1, node (both (half n) m whole old p.dropLast).2 (p.getLastD [])) := by rw [both, if_neg h, dif_neg (by omega), if_pos hm]
theorem both_right {n m : Nat} {whole : Bool} {old : T} {p : List T} (h : m ≠ n) (h2 : 2 ≤ n) (hm : ¬ m ≤ half n) :
    both n m whole old p = (node (p.getLastD []) (both (n - half n) (m - half n) false old p.dropLast).1, node (p.getLastD []) (both (n - half n) (m - half n) false old p.dropLast).2) := by
  rw [both, if_neg h, dif_neg (by omega), if_neg hm]
end Go.Proofs.YthhfcijgcpnfcaaDoor.Tr
/-
  What is digested for roots, paths and links; a path proves its element, and binds; equal roots bind; a link proves its beginning, and binds: each 'or two different texts with one digest are among those that are digested'.
-/
namespace Go.Proofs.YthhfcijgcpnfcaaDoor.Tr

/-- What is digested for a root. -/
def texts (l : List T) : List T :=
  if _h0 : l.length = 0 then [Dg.join [wEmpty]]
  else if _h1 : l.length = 1 then [Dg.join [wLeaf, l.headD []]]
  else texts (l.take (half l.length)) ++ texts (l.drop (half l.length)) ++ [Dg.join [wNode, root (l.take (half l.length)), root (l.drop (half l.length))]]
termination_by l.length
decreasing_by
  · rw [List.length_take]; have := half_lt (n := l.length) (by omega); omega
  · rw [List.length_drop]; have := half_pos l.length; omega
theorem texts_nil : texts [] = [Dg.join [wEmpty]] := by rw [texts]; simp
theorem texts_one (s : T) : texts [s] = [Dg.join [wLeaf, s]] := by rw [texts]; simp
theorem texts_two {l : List T} (h : 2 ≤ l.length) :
    texts l = texts (l.take (half l.length)) ++ texts (l.drop (half l.length)) ++ [Dg.join [wNode, root (l.take (half l.length)), root (l.drop (half l.length))]] := by
  rw [texts, dif_neg (by omega), dif_neg (by omega)]

/-- What is digested to check a path. -/
def ptexts (n i : Nat) (s : T) (p : List T) : List T :=
  if _h : n ≤ 1 then [Dg.join [wLeaf, s]]
  else if i < half n then ptexts (half n) i s p.dropLast ++ [Dg.join [wNode, up (half n) i (leaf s) p.dropLast, p.getLastD []]]
  else ptexts (n - half n) (i - half n) s p.dropLast ++ [Dg.join [wNode, p.getLastD [], up (n - half n) (i - half n) (leaf s) p.dropLast]]
termination_by n
decreasing_by
  · exact half_lt (by omega)
  · have := half_pos n; omega
theorem ptexts_one {n i : Nat} {s : T} {p : List T} (h : n ≤ 1) : ptexts n i s p = [Dg.join [wLeaf, s]] := by rw [ptexts, dif_pos h]
theorem ptexts_left {n i : Nat} {s : T} {p : List T} (h : 2 ≤ n) (hi : i < half n) :
    ptexts n i s p = ptexts (half n) i s p.dropLast ++ [Dg.join [wNode, up (half n) i (leaf s) p.dropLast, p.getLastD []]] := by rw [ptexts, dif_neg (by omega), if_pos hi]
theorem ptexts_right {n i : Nat} {s : T} {p : List T} (h : 2 ≤ n) (hi : ¬ i < half n) :
    ptexts n i s p = ptexts (n - half n) (i - half n) s p.dropLast ++ [Dg.join [wNode, p.getLastD [], up (n - half n) (i - half n) (leaf s) p.dropLast]] := by
  rw [ptexts, dif_neg (by omega), if_neg hi]

/-- What is digested to check a link. -/
def ltexts (n m : Nat) (whole : Bool) (old : T) (p : List T) : List T :=
  if m = n then []
  else if _h : n ≤ 1 then []
  else if m ≤ half n then ltexts (half n) m whole old p.dropLast ++ [Dg.join [wNode, (both (half n) m whole old p.dropLast).2, p.getLastD []]]
  else ltexts (n - half n) (m - half n) false old p.dropLast ++ [Dg.join [wNode, p.getLastD [], (both (n - half n) (m - half n) false old p.dropLast).1]]
    ++ [Dg.join [wNode, p.getLastD [], (both (n - half n) (m - half n) false old p.dropLast).2]]
termination_by n
decreasing_by
  · exact half_lt (by omega)
  · have := half_pos n; omega
theorem ltexts_all {n m : Nat} {whole : Bool} {old : T} {p : List T} (h : m = n) : ltexts n m whole old p = [] := by rw [ltexts, if_pos h]
theorem ltexts_left {n m : Nat} {whole : Bool} {old : T} {p : List T} (h : m ≠ n) (h2 : 2 ≤ n) (hm : m ≤ half n) :
    ltexts n m whole old p = ltexts (half n) m whole old p.dropLast ++ [Dg.join [wNode, (both (half n) m whole old p.dropLast).2, p.getLastD []]] := by
  rw [ltexts, if_neg h, dif_neg (by omega), if_pos hm]
theorem ltexts_right {n m : Nat} {whole : Bool} {old : T} {p : List T} (h : m ≠ n) (h2 : 2 ≤ n) (hm : ¬ m ≤ half n) :
    ltexts n m whole old p = ltexts (n - half n) (m - half n) false old p.dropLast ++ [Dg.join [wNode, p.getLastD [], (both (n - half n) (m - half n) false old p.dropLast).1]]
      ++ [Dg.join [wNode, p.getLastD [], (both (n - half n) (m - half n) false old p.dropLast).2]] := by
  rw [ltexts, if_neg h, dif_neg (by omega), if_neg hm]

/-- Two different texts of the list have one digest. -/
def Shown (l : List T) : Prop := ∃ a ∈ l, ∃ b ∈ l, a ≠ b ∧ Dg.sum a = Dg.sum b
theorem Shown.sub {l m : List T} (h : Shown l) (hs : ∀ x ∈ l, x ∈ m) : Shown m := by
  obtain ⟨a, ha, b, hb, hab⟩ := h
  exact ⟨a, hs a ha, b, hs b hb, hab⟩
theorem li_eq {l m : List T} {ts : List T} (h : li l = li m) (hl : Dg.join l ∈ ts) (hm : Dg.join m ∈ ts) : l = m ∨ Shown ts := by
  by_cases e : Dg.join l = Dg.join m
  · exact Or.inl (Dg.join_inj l m e)
  · exact Or.inr ⟨_, hl, _, hm, e, h⟩
theorem node_eq {a b c d : T} {ts : List T} (h : node a b = node c d) (hl : Dg.join [wNode, a, b] ∈ ts) (hm : Dg.join [wNode, c, d] ∈ ts) : (a = c ∧ b = d) ∨ Shown ts := by
  rcases li_eq h hl hm with e | e
  · exact Or.inl (by simpa using e)
  · exact Or.inr e
theorem leaf_eq {a b : T} {ts : List T} (h : leaf a = leaf b) (hl : Dg.join [wLeaf, a] ∈ ts) (hm : Dg.join [wLeaf, b] ∈ ts) : a = b ∨ Shown ts := by
  rcases li_eq h hl hm with e | e
  · exact Or.inl (by simpa using e)
  · exact Or.inr e

/-- P2.4: equal roots of lists of one length. -/
theorem roots_bind : ∀ (n : Nat) (a b : List T), a.length = n → b.length = n → root a = root b → a = b ∨ Shown (texts a ++ texts b) := by
  intro n
  induction n using Nat.strongRecOn with
  | ind n ih =>
    intro a b ha hb h
    match n, ha, hb, ih with
    | 0, ha, hb, _ => exact Or.inl (by rw [List.length_eq_zero_iff.1 ha, List.length_eq_zero_iff.1 hb])
    | 1, ha, hb, _ =>
      obtain ⟨x, rfl⟩ := List.length_eq_one_iff.1 ha
      obtain ⟨y, rfl⟩ := List.length_eq_one_iff.1 hb
      rw [root_one, root_one] at h
      rcases leaf_eq (ts := texts [x] ++ texts [y]) h (by rw [texts_one]; simp) (by rw [texts_one, texts_one]; simp) with e | e
      · exact Or.inl (by rw [e])
      · exact Or.inr e
    | n + 2, ha, hb, ih =>
      have hk := half_pos (n + 2)
      have hk2 := half_lt (n := n + 2) (by omega)
      rw [root_two (l := a) (by omega), root_two (l := b) (by omega), ha, hb] at h
      have ta := texts_two (l := a) (by omega)
      have tb := texts_two (l := b) (by omega)
      rw [ha] at ta
      rw [hb] at tb
      rcases node_eq (ts := texts a ++ texts b) h (by rw [ta]; simp) (by rw [tb]; simp) with ⟨e1, e2⟩ | e
      · rcases ih (half (n + 2)) hk2 _ _ (by rw [List.length_take]; omega) (by rw [List.length_take]; omega) e1 with f1 | f1
        · rcases ih (n + 2 - half (n + 2)) (by omega) _ _ (by rw [List.length_drop]; omega) (by rw [List.length_drop]; omega) e2 with f2 | f2
          · exact Or.inl (by rw [← List.take_append_drop (half (n + 2)) a, f1, f2, List.take_append_drop])
          · exact Or.inr (f2.sub (by rw [ta, tb]; intro x hx; simp only [List.mem_append] at hx ⊢; rcases hx with hx | hx <;> simp [hx]))
        · exact Or.inr (f1.sub (by rw [ta, tb]; intro x hx; simp only [List.mem_append] at hx ⊢; rcases hx with hx | hx <;> simp [hx]))
      · exact Or.inr e

/-- P2.2: the path of an element proves it. -/
theorem path_up : ∀ (n : Nat) (l : List T) (i : Nat) (d : T), l.length = n → (hi : i < l.length) → d = leaf l[i] → up n i d (path l i) = root l := by
  intro n
  induction n using Nat.strongRecOn with
  | ind n ih =>
    intro l i d hl hi hd
    by_cases h1 : n ≤ 1
    · obtain ⟨x, rfl⟩ := List.length_eq_one_iff.1 (show l.length = 1 by omega)
      have : i = 0 := by simpa using hi
      subst this
      rw [up_one h1, hd, root_one]; rfl
    · have hk := half_pos n
      have hk2 := half_lt (n := n) (by omega)
      rw [root_two (by omega), hl]
      by_cases hik : i < half n
      · have hp := path_left (l := l) (i := i) (by omega) (by rw [hl]; exact hik)
        rw [hl] at hp
        rw [hp, up_left (by omega) hik, List.dropLast_concat, List.getLastD_concat]
        rw [ih (half n) hk2 (l.take (half n)) i d (by rw [List.length_take]; omega) (by rw [List.length_take]; omega) (by rw [hd, List.getElem_take])]
      · have hp := path_right (l := l) (i := i) (by omega) (by rw [hl]; exact hik)
        rw [hl] at hp
        rw [hp, up_right (by omega) hik, List.dropLast_concat, List.getLastD_concat]
        rw [ih (n - half n) (by omega) (l.drop (half n)) (i - half n) d (by rw [List.length_drop]; omega) (by rw [List.length_drop]; omega) (by rw [hd, List.getElem_drop]; simp only [show half n + (i - half n) = i by omega])]

theorem path_length : ∀ (n : Nat) (l : List T) (i : Nat), l.length = n → (path l i).length = plen n i := by
  intro n
  induction n using Nat.strongRecOn with
  | ind n ih =>
    intro l i hl
    by_cases h1 : n ≤ 1
    · rw [path_one (by omega), plen_one h1]; rfl
    · have hk := half_pos n
      have hk2 := half_lt (n := n) (by omega)
      by_cases hik : i < half n
      · have hp := path_left (l := l) (i := i) (by omega) (by rw [hl]; exact hik)
        rw [hl] at hp
        rw [hp, plen_left (by omega) hik, List.length_append, ih (half n) hk2 _ _ (by rw [List.length_take]; omega)]; rfl
      · have hp := path_right (l := l) (i := i) (by omega) (by rw [hl]; exact hik)
        rw [hl] at hp
        rw [hp, plen_right (by omega) hik, List.length_append, ih (n - half n) (by omega) _ _ (by rw [List.length_drop]; omega)]; rfl

theorem plen_pos {n i : Nat} (h : 2 ≤ n) : 0 < plen n i := by
  by_cases hi : i < half n
  · rw [plen_left h hi]; omega
  · rw [plen_right h hi]; omega
theorem plen_le : ∀ (d n i : Nat), n ≤ 2 ^ d → plen n i ≤ d := by
  intro d
  induction d with
  | zero => intro n i h; rw [plen_one (by simpa using h)]; omega
  | succ d ih =>
    intro n i h
    by_cases h1 : n ≤ 1
    · rw [plen_one h1]; omega
    · have hk := half_ge (n := n) (by omega)
      have hk2 := half_lt (n := n) (by omega)
      have hk3 : half n ≤ 2 ^ d := by
        unfold half
        apply Nat.pow_le_pow_right (by omega)
        have := (Nat.log2_lt (n := n - 1) (k := d + 1) (by omega)).2 (by omega)
        omega
      by_cases hi : i < half n
      · rw [plen_left (by omega) hi]; have := ih (half n) i hk3; omega
      · rw [plen_right (by omega) hi]; have := ih (n - half n) (i - half n) (by omega); omega

theorem root_isDigest (l : List T) : Dg.isDigest (root l) = true := by
  rw [root]; split
  · exact Dg.sum_isDigest _
  · split <;> exact Dg.sum_isDigest _
theorem path_digests : ∀ (n : Nat) (l : List T) (i : Nat), l.length = n → (path l i).all Dg.isDigest = true := by
  intro n
  induction n using Nat.strongRecOn with
  | ind n ih =>
    intro l i hl
    by_cases h1 : n ≤ 1
    · rw [path_one (by omega)]; rfl
    · have hk := half_pos n
      have hk2 := half_lt (n := n) (by omega)
      by_cases hik : i < half n
      · rw [path_left (by omega) (by rw [hl]; exact hik), List.all_append, ih (half n) hk2 _ _ (by rw [List.length_take, hl]; omega)]; simp [root_isDigest]
      · rw [path_right (by omega) (by rw [hl]; exact hik), List.all_append, ih (n - half n) (by omega) _ _ (by rw [List.length_drop, hl])]; simp [root_isDigest]

/-- P2.3: a path that proves a string at an index. -/
theorem path_bind : ∀ (n : Nat) (l : List T) (i : Nat) (s : T) (p : List T), l.length = n → (hi : i < l.length) → up n i (leaf s) p = root l → s = l[i] ∨ Shown (texts l ++ ptexts n i s p) := by
  intro n
  induction n using Nat.strongRecOn with
  | ind n ih =>
    intro l i s p hl hi h
    by_cases h1 : n ≤ 1
    · obtain ⟨x, rfl⟩ := List.length_eq_one_iff.1 (show l.length = 1 by omega)
      have : i = 0 := by simpa using hi
      subst this
      rw [up_one h1, root_one] at h
      rw [ptexts_one h1, texts_one]
      exact leaf_eq h (by simp) (by simp)
    · have hk := half_pos n
      have hk2 := half_lt (n := n) (by omega)
      have tl := texts_two (l := l) (by omega)
      rw [hl] at tl
      rw [root_two (by omega), hl] at h
      by_cases hik : i < half n
      · have tp := ptexts_left (n := n) (i := i) (s := s) (p := p) (by omega) hik
        rw [up_left (by omega) hik] at h
        rcases node_eq (ts := texts l ++ ptexts n i s p) h (by rw [tp]; simp) (by rw [tl]; simp) with ⟨e, _⟩ | e
        · rcases ih (half n) hk2 (l.take (half n)) i s _ (by rw [List.length_take]; omega) (by rw [List.length_take]; omega) e with f | f
          · exact Or.inl (by rw [f, List.getElem_take])
          · exact Or.inr (f.sub (by rw [tl, tp]; intro x hx; simp only [List.mem_append] at hx ⊢; rcases hx with hx | hx <;> simp [hx]))
        · exact Or.inr e
      · have tp := ptexts_right (n := n) (i := i) (s := s) (p := p) (by omega) hik
        rw [up_right (by omega) hik] at h
        rcases node_eq (ts := texts l ++ ptexts n i s p) h (by rw [tp]; simp) (by rw [tl]; simp) with ⟨_, e⟩ | e
        · rcases ih (n - half n) (by omega) (l.drop (half n)) (i - half n) s _ (by rw [List.length_drop]; omega) (by rw [List.length_drop]; omega) e with f | f
          · exact Or.inl (by rw [f, List.getElem_drop]; simp only [show half n + (i - half n) = i by omega])
          · exact Or.inr (f.sub (by rw [tl, tp]; intro x hx; simp only [List.mem_append] at hx ⊢; rcases hx with hx | hx <;> simp [hx]))
        · exact Or.inr e
end Go.Proofs.YthhfcijgcpnfcaaDoor.Tr
