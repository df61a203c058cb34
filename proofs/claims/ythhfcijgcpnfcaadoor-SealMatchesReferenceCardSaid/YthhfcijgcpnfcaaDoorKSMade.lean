import Derived.Test.YthhfcijgcpnfcaaDoorKTBind
/-
  Trees of 2^p strings: a path has p digests; it is climbed from the leaf upwards by the binary digits of the index; a way that ends in the root of a list of 2^h strings is the path of its string, or two different texts with one digest are shown.
-/
namespace Go.Proofs.YthhfcijgcpnfcaaDoor.Tr

theorem half_two (p : Nat) : half (2 ^ (p + 1)) = 2 ^ p := half_eq (Nat.pow_lt_pow_right (by decide) (by omega)) (Nat.le_refl _)

/-- From a leaf upwards. -/
def climb (d : T) (i : Nat) : List T → T
  | [] => d
  | x :: p => climb (if i % 2 = 1 then node x d else node d x) (i / 2) p
/-- What is digested on this way. -/
def ctexts (d : T) (i : Nat) : List T → List T
  | [] => []
  | x :: p => Dg.join (if i % 2 = 1 then [wNode, x, d] else [wNode, d, x]) :: ctexts (if i % 2 = 1 then node x d else node d x) (i / 2) p

theorem climb_snoc (x : T) : ∀ (p : List T) (d : T) (i : Nat), climb d i (p ++ [x]) = if i / 2 ^ p.length % 2 = 1 then node x (climb d i p) else node (climb d i p) x := by
  intro p
  induction p with
  | nil => intro d i; simp [climb]
  | cons y p ih =>
    intro d i
    rw [List.cons_append, climb, ih, climb, List.length_cons, Nat.div_div_eq_div_mul, Nat.pow_succ, Nat.mul_comm]
theorem ctexts_snoc (x : T) : ∀ (p : List T) (d : T) (i : Nat), ctexts d i (p ++ [x]) = ctexts d i p ++ [Dg.join (if i / 2 ^ p.length % 2 = 1 then [wNode, x, climb d i p] else [wNode, climb d i p, x])] := by
  intro p
  induction p with
  | nil => intro d i; simp [climb, ctexts]
  | cons y p ih =>
    intro d i
    rw [List.cons_append, ctexts, ih, ctexts, climb, List.length_cons, Nat.div_div_eq_div_mul, Nat.pow_succ, Nat.mul_comm, List.cons_append]
theorem low_div (i n : Nat) : i % 2 ^ (n + 1) / 2 = i / 2 % 2 ^ n := by rw [Nat.pow_succ, Nat.mul_comm]; exact Nat.mod_mul_right_div_self i 2 (2 ^ n)
theorem low_mod (i n : Nat) : i % 2 ^ (n + 1) % 2 = i % 2 := Nat.mod_mod_of_dvd _ ⟨2 ^ n, by rw [Nat.pow_succ, Nat.mul_comm]⟩
theorem climb_low : ∀ (p : List T) (d : T) (i : Nat), climb d (i % 2 ^ p.length) p = climb d i p := by
  intro p
  induction p with
  | nil => intro d i; rfl
  | cons y p ih => intro d i; rw [climb, climb, List.length_cons, low_mod, low_div, ih]
theorem ctexts_low : ∀ (p : List T) (d : T) (i : Nat), ctexts d (i % 2 ^ p.length) p = ctexts d i p := by
  intro p
  induction p with
  | nil => intro d i; rfl
  | cons y p ih => intro d i; rw [ctexts, ctexts, List.length_cons, low_mod, low_div, ih]

theorem snoc_of {p : Nat} {l : List T} (hl : l.length = p + 1) : ∃ q x, l = q ++ [x] ∧ q.length = p ∧ l.dropLast = q ∧ l.getLastD [] = x := by
  rcases List.eq_nil_or_concat l with e | ⟨q, x, e⟩
  · rw [e] at hl; simp at hl
  · subst e
    refine ⟨q, x, by simp, by simpa using hl, by simp, by simp⟩

theorem high_half {p i : Nat} (hi : i < 2 ^ (p + 1)) (h : ¬ i < 2 ^ p) : i / 2 ^ p % 2 = 1 ∧ i - 2 ^ p = i % 2 ^ p ∧ i - 2 ^ p < 2 ^ p := by
  rw [Nat.pow_succ] at hi
  have e : i / 2 ^ p = 1 := Nat.div_eq_of_lt_le (by omega) (by omega)
  have m := Nat.div_add_mod i (2 ^ p)
  rw [e] at m
  exact ⟨by rw [e], by omega, by omega⟩

theorem up_climb : ∀ (p i : Nat) (d : T) (l : List T), l.length = p → i < 2 ^ p → up (2 ^ p) i d l = climb d i l := by
  intro p
  induction p with
  | zero => intro i d l hl hi; rw [up_one (by decide), List.length_eq_zero_iff.1 hl]; rfl
  | succ p ih =>
    intro i d l hl hi
    obtain ⟨q, x, rfl, hq, e1, e2⟩ := snoc_of hl
    have h2 : 2 ≤ 2 ^ (p + 1) := by rw [Nat.pow_succ]; have := Nat.two_pow_pos p; omega
    rw [climb_snoc, hq]
    by_cases h : i < 2 ^ p
    · rw [up_left h2 (by rw [half_two]; exact h), half_two, e1, e2, ih i d q hq h, Nat.div_eq_of_lt h, if_neg (by decide)]
    · obtain ⟨a, b, c⟩ := high_half hi h
      rw [up_right h2 (by rw [half_two]; exact h), half_two, e1, e2, show 2 ^ (p + 1) - 2 ^ p = 2 ^ p by rw [Nat.pow_succ]; omega, ih _ d q hq c, if_pos a, b, ← hq, climb_low]

theorem ptexts_climb : ∀ (p i : Nat) (s : T) (l : List T), l.length = p → i < 2 ^ p → ptexts (2 ^ p) i s l = Dg.join [wLeaf, s] :: ctexts (leaf s) i l := by
  intro p
  induction p with
  | zero => intro i d l hl hi; rw [ptexts_one (by decide), List.length_eq_zero_iff.1 hl]; rfl
  | succ p ih =>
    intro i s l hl hi
    obtain ⟨q, x, rfl, hq, e1, e2⟩ := snoc_of hl
    have h2 : 2 ≤ 2 ^ (p + 1) := by rw [Nat.pow_succ]; have := Nat.two_pow_pos p; omega
    rw [ctexts_snoc, hq]
    by_cases h : i < 2 ^ p
    · rw [ptexts_left h2 (by rw [half_two]; exact h), half_two, e1, e2, ih i s q hq h, up_climb p i _ q hq h, Nat.div_eq_of_lt h, if_neg (by decide), List.cons_append]
    · obtain ⟨a, b, c⟩ := high_half hi h
      rw [ptexts_right h2 (by rw [half_two]; exact h), half_two, e1, e2, show 2 ^ (p + 1) - 2 ^ p = 2 ^ p by rw [Nat.pow_succ]; omega, ih _ s q hq c, up_climb p _ _ q hq c, if_pos a, b, ← hq, climb_low, ctexts_low, List.cons_append]

theorem node_leaf {a b s : T} {ts : List T} (h : node a b = leaf s) (hl : Dg.join [wNode, a, b] ∈ ts) (hm : Dg.join [wLeaf, s] ∈ ts) : Shown ts := by
  rcases li_eq h hl hm with e | e
  · simp [wNode, wLeaf] at e
  · exact e

/-- A way of p digests that ends in the root of 2^h strings. -/
theorem two_bind : ∀ (h p : Nat) (l : List T) (i : Nat) (s : T) (q : List T), l.length = 2 ^ h → i < 2 ^ p → q.length = p → up (2 ^ p) i (leaf s) q = root l →
    (p = h ∧ l[i]? = some s ∧ q = path l i) ∨ Shown (texts l ++ ptexts (2 ^ p) i s q) := by
  intro h
  induction h with
  | zero =>
    intro p l i s q hl hi hq hr
    obtain ⟨x, rfl⟩ := List.length_eq_one_iff.1 (show l.length = 1 by simpa using hl)
    cases p with
    | zero =>
      have : i = 0 := by simpa using hi
      subst this
      rw [up_one (by decide), root_one] at hr
      rcases leaf_eq (ts := texts [x] ++ ptexts (2 ^ 0) 0 s q) hr (by rw [ptexts_one (by decide)]; simp) (by rw [texts_one]; simp) with e | e
      · exact Or.inl ⟨rfl, by rw [e]; rfl, by rw [path_one (by simp), List.length_eq_zero_iff.1 hq]⟩
      · exact Or.inr e
    | succ p =>
      have h2 : 2 ≤ 2 ^ (p + 1) := by rw [Nat.pow_succ]; have := Nat.two_pow_pos p; omega
      right
      rw [root_one] at hr
      by_cases hh : i < half (2 ^ (p + 1))
      · rw [up_left h2 hh] at hr
        exact node_leaf hr (by rw [ptexts_left h2 hh]; simp) (by rw [texts_one]; simp)
      · rw [up_right h2 hh] at hr
        exact node_leaf hr (by rw [ptexts_right h2 hh]; simp) (by rw [texts_one]; simp)
  | succ h ih =>
    intro p l i s q hl hi hq hr
    have g2 : 2 ≤ 2 ^ (h + 1) := by rw [Nat.pow_succ]; have := Nat.two_pow_pos h; omega
    have tl := texts_two (l := l) (by omega)
    rw [root_two (by omega), hl, half_two] at hr
    rw [hl, half_two] at tl
    have l1 : (l.take (2 ^ h)).length = 2 ^ h := by rw [List.length_take, hl, Nat.pow_succ]; omega
    have l2 : (l.drop (2 ^ h)).length = 2 ^ h := by rw [List.length_drop, hl, Nat.pow_succ]; omega
    cases p with
    | zero =>
      right
      rw [up_one (by decide)] at hr
      exact node_leaf hr.symm (by rw [tl]; simp) (by rw [ptexts_one (by decide)]; simp)
    | succ p =>
      have h2 : 2 ≤ 2 ^ (p + 1) := by rw [Nat.pow_succ]; have := Nat.two_pow_pos p; omega
      obtain ⟨q, x, rfl, hq', e1, e2⟩ := snoc_of hq
      by_cases hh : i < 2 ^ p
      · have tp := ptexts_left (n := 2 ^ (p + 1)) (i := i) (s := s) (p := q ++ [x]) h2 (by rw [half_two]; exact hh)
        rw [up_left h2 (by rw [half_two]; exact hh), half_two, e1, e2] at hr
        rw [half_two, e1, e2] at tp
        rcases node_eq (ts := texts l ++ ptexts (2 ^ (p + 1)) i s (q ++ [x])) hr (by rw [tp]; simp) (by rw [tl]; simp) with ⟨f1, f2⟩ | e
        · rcases ih p (l.take (2 ^ h)) i s q l1 hh hq' f1 with ⟨rfl, f3, f4⟩ | f
          · refine Or.inl ⟨rfl, ?_, ?_⟩
            · rw [← f3, List.getElem?_take, if_pos hh]
            · rw [path_left (by omega) (by rw [hl, half_two]; exact hh), hl, half_two, ← f4, f2]
          · exact Or.inr (f.sub (by rw [tl, tp]; intro y hy; simp only [List.mem_append] at hy ⊢; rcases hy with hy | hy <;> simp [hy]))
        · exact Or.inr e
      · obtain ⟨_, _, c⟩ := high_half hi hh
        have tp := ptexts_right (n := 2 ^ (p + 1)) (i := i) (s := s) (p := q ++ [x]) h2 (by rw [half_two]; exact hh)
        rw [up_right h2 (by rw [half_two]; exact hh), half_two, e1, e2, show 2 ^ (p + 1) - 2 ^ p = 2 ^ p by rw [Nat.pow_succ]; omega] at hr
        rw [half_two, e1, e2, show 2 ^ (p + 1) - 2 ^ p = 2 ^ p by rw [Nat.pow_succ]; omega] at tp
        rcases node_eq (ts := texts l ++ ptexts (2 ^ (p + 1)) i s (q ++ [x])) hr (by rw [tp]; simp) (by rw [tl]; simp) with ⟨f2, f1⟩ | e
        · rcases ih p (l.drop (2 ^ h)) (i - 2 ^ p) s q l2 c hq' f1 with ⟨rfl, f3, f4⟩ | f
          · refine Or.inl ⟨rfl, ?_, ?_⟩
            · rw [← f3, List.getElem?_drop, show 2 ^ p + (i - 2 ^ p) = i by omega]
            · rw [path_right (by omega) (by rw [hl, half_two]; exact hh), hl, half_two, ← f4, f2]
          · exact Or.inr (f.sub (by rw [tl, tp]; intro y hy; simp only [List.mem_append] at hy ⊢; rcases hy with hy | hy <;> simp [hy]))
        · exact Or.inr e

theorem plen_two : ∀ (p i : Nat), i < 2 ^ p → plen (2 ^ p) i = p := by
  intro p
  induction p with
  | zero => intro i _; exact plen_one (by decide)
  | succ p ih =>
    intro i hi
    have h2 : 2 ≤ 2 ^ (p + 1) := by rw [Nat.pow_succ]; have := Nat.two_pow_pos p; omega
    by_cases h : i < 2 ^ p
    · rw [plen_left h2 (by rw [half_two]; exact h), half_two, ih i h]
    · obtain ⟨_, _, c⟩ := high_half hi h
      rw [plen_right h2 (by rw [half_two]; exact h), half_two, show 2 ^ (p + 1) - 2 ^ p = 2 ^ p by rw [Nat.pow_succ]; omega, ih _ c]
end Go.Proofs.YthhfcijgcpnfcaaDoor.Tr
/-
  Seals in arithmetic: the digits of a message, chains that meet, and what an accepted seal is made of, each 'or two different texts with one digest are shown'.
-/
namespace Go.Proofs.YthhfcijgcpnfcaaDoor.Sl
open Go.Proofs.YthhfcijgcpnfcaaDoor.Tr

/-- The value of a hexadecimal digit. -/
def hv (b : UInt8) : Nat := if b.toNat < 58 then b.toNat - 48 else b.toNat - 87
theorem hex_cases (b : UInt8) (h : Dg.isHex b = true) : (48 ≤ b.toNat ∧ b.toNat ≤ 57) ∨ (97 ≤ b.toNat ∧ b.toNat ≤ 102) := by
  simp only [Dg.isHex, Bool.or_eq_true, Bool.and_eq_true, decide_eq_true_eq, UInt8.le_iff_toNat_le] at h
  exact h
theorem hv_le (b : UInt8) (h : Dg.isHex b = true) : hv b ≤ 15 := by
  rcases hex_cases b h with h | h
  · rw [hv, if_pos (by omega)]; omega
  · rw [hv, if_neg (by omega)]; omega
theorem hv_inj (a b : UInt8) (ha : Dg.isHex a = true) (hb : Dg.isHex b = true) (h : hv a = hv b) : a = b := by
  apply UInt8.toNat_inj.1
  rw [hv, hv] at h
  rcases hex_cases a ha with ha | ha <;> rcases hex_cases b hb with hb | hb
  · rw [if_pos (by omega), if_pos (by omega)] at h; omega
  · rw [if_pos (by omega), if_neg (by omega)] at h; omega
  · rw [if_neg (by omega), if_pos (by omega)] at h; omega
  · rw [if_neg (by omega), if_neg (by omega)] at h; omega

/-- The checksum. -/
def rest : List UInt8 → Nat
  | [] => 0
  | b :: l => (15 - hv b) + rest l
theorem rest_le : ∀ l : List UInt8, rest l ≤ 15 * l.length
  | [] => Nat.zero_le _
  | b :: l => by have := rest_le l; rw [rest, List.length_cons]; omega
theorem rest_mono : ∀ l m : List UInt8, l.length = m.length → l.all Dg.isHex = true → m.all Dg.isHex = true → (∀ k, k < l.length → hv (l.getD k 0) ≤ hv (m.getD k 0)) →
    rest m ≤ rest l ∧ (rest m = rest l → l = m)
  | [], [], _, _, _, _ => ⟨Nat.le_refl _, fun _ => rfl⟩
  | [], _ :: _, h, _, _, _ => by simp at h
  | _ :: _, [], h, _, _, _ => by simp at h
  | a :: l, b :: m, h, ha, hb, hk => by
    rw [List.all_cons, Bool.and_eq_true] at ha hb
    have i := rest_mono l m (by simpa using h) ha.2 hb.2 (fun k hkl => by simpa using hk (k + 1) (by rw [List.length_cons]; omega))
    have h0 : hv a ≤ hv b := by simpa using hk 0 (by rw [List.length_cons]; omega)
    have l1 := hv_le a ha.1
    have l2 := hv_le b hb.1
    rw [rest, rest]
    refine ⟨by omega, fun e => ?_⟩
    rw [hv_inj a b ha.1 hb.1 (by omega), i.2 (by omega)]

theorem sum_hex (m : T) : (Dg.sum m).all Dg.isHex = true := by
  have := Dg.sum_isDigest m
  rw [Dg.isDigest, Bool.and_eq_true] at this
  exact this.2

/-- The 18 digits of a digest. -/
def digitsOf (l : List UInt8) : List Nat := l.map hv ++ [rest l / 16, rest l % 16]
theorem digitsOf_low (l : List UInt8) (hl : l.length = 16) (k : Nat) (h : k < 16) : (digitsOf l).getD k 0 = hv (l.getD k 0) := by
  have h1 : k < l.length := by omega
  simp [digitsOf, List.getD_eq_getElem?_getD, List.getElem?_append, h1]
theorem digitsOf_16 (l : List UInt8) (hl : l.length = 16) : (digitsOf l).getD 16 0 = rest l / 16 := by
  simp [digitsOf, List.getD_eq_getElem?_getD, hl]
theorem digitsOf_17 (l : List UInt8) (hl : l.length = 16) : (digitsOf l).getD 17 0 = rest l % 16 := by
  simp [digitsOf, List.getD_eq_getElem?_getD, hl]
/-- The 18 digits of a message. -/
def digits (m : T) : List Nat := digitsOf (Dg.sum m)
def dg (m : T) (k : Nat) : Nat := (digits m).getD k 0
theorem digits_length (m : T) : (digits m).length = 18 := by simp [digits, digitsOf, Dg.sum_length]
theorem dg_low (m : T) (k : Nat) (h : k < 16) : dg m k = hv ((Dg.sum m).getD k 0) := digitsOf_low _ (Dg.sum_length m) k h
theorem dg_16 (m : T) : dg m 16 = rest (Dg.sum m) / 16 := digitsOf_16 _ (Dg.sum_length m)
theorem dg_17 (m : T) : dg m 17 = rest (Dg.sum m) % 16 := digitsOf_17 _ (Dg.sum_length m)
theorem dg_le (m : T) (k : Nat) (h : k < 18) : dg m k ≤ 15 := by
  have hl := Dg.sum_length m
  by_cases h16 : k < 16
  · rw [dg_low m k h16]
    refine hv_le _ ?_
    rw [List.getD_eq_getElem?_getD, List.getElem?_eq_getElem (by rw [hl]; exact h16)]
    exact List.all_eq_true.1 (sum_hex m) _ (List.getElem_mem _)
  · have := rest_le (Dg.sum m)
    rw [hl] at this
    by_cases e : k = 16
    · subst e; rw [dg_16]; omega
    · have : k = 17 := by omega
      subst this; rw [dg_17]; omega
theorem dg_less (a b : T) (h : Dg.sum a ≠ Dg.sum b) : ∃ k, k < 18 ∧ dg b k < dg a k := by
  apply Classical.byContradiction
  intro hn
  have hk : ∀ k, k < 18 → dg a k ≤ dg b k := fun k hk => by
    apply Nat.le_of_not_lt
    exact fun hlt => hn ⟨k, hk, hlt⟩
  have m := rest_mono (Dg.sum a) (Dg.sum b) (by rw [Dg.sum_length, Dg.sum_length]) (sum_hex a) (sum_hex b) (fun k hkl => by
    rw [Dg.sum_length] at hkl
    rw [← dg_low a k hkl, ← dg_low b k hkl]
    exact hk k (by omega))
  have h16 := hk 16 (by decide)
  have h17 := hk 17 (by decide)
  rw [dg_16, dg_16] at h16
  rw [dg_17, dg_17] at h17
  exact h (m.2 (by omega))

/-- Chains that meet. -/
theorem chain_meet (x y : T) (ts : List T) : ∀ n, Dg.chain x n = Dg.chain y n → (∀ j, j < n → Dg.chain x j ∈ ts ∧ Dg.chain y j ∈ ts) → x = y ∨ Shown ts
  | 0, h, _ => Or.inl h
  | n + 1, h, hm => by
    by_cases e : Dg.chain x n = Dg.chain y n
    · exact chain_meet x y ts n e (fun j hj => hm j (by omega))
    · exact Or.inr ⟨_, (hm n (by omega)).1, _, (hm n (by omega)).2, e, h⟩

def startT (s : T) (i k : Nat) : T := Dg.join [s, Go.Lib.decDigits i, Go.Lib.decDigits k]
def start (s : T) (i k : Nat) : T := Dg.sum (startT s i k)
def ends (s : T) (i : Nat) : List T := (List.range 18).map fun k => Dg.chain (start s i k) 15
def key (s : T) (i : Nat) : T := li (ends s i)
def keys (s : T) (h : Nat) : List T := (List.range (2 ^ h)).map (key s)
def pub (s : T) (h : Nat) : T := root (keys s h)
def sig (s : T) (i : Nat) (m : T) : List T := (List.range 18).map fun k => Dg.chain (start s i k) (dg m k)
def cends (m : T) (sg : List T) : List T := (List.range 18).map fun k => Dg.chain (sg.getD k []) (15 - dg m k)
/-- C3. -/
def Accepts (pb m : T) (i : Nat) (sg q : List T) : Prop :=
  sg.length = 18 ∧ q.length ≤ 8 ∧ sg.all Dg.isDigest = true ∧ q.all Dg.isDigest = true ∧ i < 2 ^ q.length ∧ up (2 ^ q.length) i (leaf (li (cends m sg))) q = pb

/-- The texts that are digested for a public key, chains continued to n links. -/
structure Has (s : T) (h n : Nat) (ts : List T) : Prop where
  start : ∀ i, i < 2 ^ h → ∀ k, k < 18 → startT s i k ∈ ts
  chain : ∀ i, i < 2 ^ h → ∀ k, k < 18 → ∀ j, j ≤ n → Dg.chain (Sl.start s i k) j ∈ ts
  key : ∀ i, i < 2 ^ h → Dg.join (ends s i) ∈ ts
  tree : ∀ x, x ∈ texts (keys s h) → x ∈ ts
/-- The texts that are digested to verify a seal. -/
structure HasC (m : T) (i : Nat) (sg q : List T) (ts : List T) : Prop where
  chain : ∀ k, k < 18 → ∀ j, j ≤ 15 - dg m k → Dg.chain (sg.getD k []) j ∈ ts
  key : Dg.join (cends m sg) ∈ ts
  tree : ∀ x, x ∈ ptexts (2 ^ q.length) i (li (cends m sg)) q → x ∈ ts

theorem keys_length (s : T) (h : Nat) : (keys s h).length = 2 ^ h := by simp [keys]
theorem keys_get (s : T) (h i : Nat) (hi : i < 2 ^ h) : (keys s h)[i]? = some (key s i) := by simp [keys, hi]
theorem sig_length (s : T) (i : Nat) (m : T) : (sig s i m).length = 18 := by simp [sig]
theorem sig_get (s : T) (i : Nat) (m : T) (k : Nat) (hk : k < 18) : (sig s i m).getD k [] = Dg.chain (start s i k) (dg m k) := by simp [sig, List.getD_eq_getElem?_getD, hk]
theorem cends_sig (s : T) (i : Nat) (m : T) : cends m (sig s i m) = ends s i := by
  rw [cends, ends]
  refine List.map_congr_left fun k hk => ?_
  have hk := List.mem_range.1 hk
  have := dg_le m k hk
  rw [sig_get s i m k hk, Dg.chain_add, show dg m k + (15 - dg m k) = 15 by omega]
theorem start_isDigest (s : T) (i k : Nat) : Dg.isDigest (start s i k) = true := Dg.sum_isDigest _
theorem chain_start_isDigest (s : T) (i k n : Nat) : Dg.isDigest (Dg.chain (start s i k) n) = true := by
  cases n with
  | zero => exact start_isDigest s i k
  | succ n => exact Dg.chain_isDigest _ n
theorem sig_mem (s : T) (i : Nat) (m x : T) (hx : x ∈ sig s i m) : ∃ k n, x = Dg.chain (start s i k) n := by
  unfold sig at hx
  obtain ⟨k, _, e⟩ := List.mem_map.1 hx
  exact ⟨k, _, e.symm⟩
theorem sig_digests (s : T) (i : Nat) (m : T) : (sig s i m).all Dg.isDigest = true := by
  refine List.all_eq_true.2 fun x hx => ?_
  obtain ⟨k, n, e⟩ := sig_mem s i m x hx
  rw [e]
  exact chain_start_isDigest s i k n

/-- P3.2. -/
theorem verifies (s : T) (h i : Nat) (m : T) (h8 : h ≤ 8) (hi : i < 2 ^ h) :
    (path (keys s h) i).length = h ∧ Accepts (pub s h) m i (sig s i m) (path (keys s h) i) := by
  have hl : (path (keys s h) i).length = h := by rw [path_length _ (keys s h) i rfl, keys_length, plen_two h i hi]
  have hg := keys_get s h i hi
  obtain ⟨hb, hg⟩ := List.getElem?_eq_some_iff.1 hg
  refine ⟨hl, sig_length s i m, by omega, sig_digests s i m, path_digests _ _ _ rfl, by rw [hl]; exact hi, ?_⟩
  rw [hl, cends_sig]
  exact path_up _ (keys s h) i _ (keys_length s h) hb (by rw [hg]; rfl)

theorem map_range_get {α : Type} {f g : Nat → α} {n : Nat} (h : (List.range n).map f = (List.range n).map g) (k : Nat) (hk : k < n) : f k = g k := by
  have := congrArg (fun l => l[k]?) h
  simpa [hk] using this

/-- P3.3. -/
theorem sound (s : T) (h i : Nat) (m : T) (sg q ts : List T) (H : Has s h 15 ts) (C : HasC m i sg q ts) (A : Accepts (pub s h) m i sg q) :
    (i < 2 ^ h ∧ sg = sig s i m ∧ q = path (keys s h) i) ∨ Shown ts := by
  obtain ⟨h18, _, _, _, hi, hu⟩ := A
  rcases two_bind h q.length (keys s h) i _ q (keys_length s h) hi rfl hu with ⟨e, hk, hq⟩ | e
  · rw [e] at hi
    rw [keys_get s h i hi] at hk
    have hk : key s i = li (cends m sg) := by simpa using hk
    rcases li_eq hk (H.key i hi) C.key with f | f
    · have all : (∀ k, k < 18 → sg.getD k [] = Dg.chain (start s i k) (dg m k)) ∨ Shown ts := by
        apply Classical.byContradiction
        intro hn
        rw [not_or] at hn
        refine hn.1 fun k hk => ?_
        have hd := dg_le m k hk
        have fk : Dg.chain (start s i k) 15 = Dg.chain (sg.getD k []) (15 - dg m k) := map_range_get (f := fun k => Dg.chain (start s i k) 15) (g := fun k => Dg.chain (sg.getD k []) (15 - dg m k)) f k hk
        have fk2 : Dg.chain (sg.getD k []) (15 - dg m k) = Dg.chain (Dg.chain (start s i k) (dg m k)) (15 - dg m k) := by rw [Dg.chain_add, show dg m k + (15 - dg m k) = 15 by omega, fk]
        rcases chain_meet _ _ ts _ fk2 (fun j hj => ⟨C.chain k hk j (by omega), by rw [Dg.chain_add]; exact H.chain i hi k hk _ (by omega)⟩) with g | g
        · exact g
        · exact absurd g hn.2
      rcases all with g | g
      · refine Or.inl ⟨hi, ?_, hq⟩
        apply List.ext_getElem (by rw [h18, sig_length])
        intro k k1 k2
        have := g k (by omega)
        rw [← sig_get s i m k (by omega)] at this
        simpa [List.getD_eq_getElem?_getD, k1, k2] using this
      · exact Or.inr g
    · exact Or.inr f
  · exact Or.inr (e.sub (fun x hx => by
      rcases List.mem_append.1 hx with hx | hx
      · exact H.tree x hx
      · exact C.tree x hx))

/-- A text that begins a chain is no digest. -/
theorem startT_ne (s : T) (i k : Nat) (x : T) (hx : Dg.isDigest x = true) : startT s i k ≠ x := by
  intro e
  have h : (58 : UInt8) ∈ startT s i k := by rw [startT, Dg.join]; simp
  rw [e] at h
  rw [Dg.isDigest, Bool.and_eq_true] at hx
  exact absurd (List.all_eq_true.1 hx.2 _ h) (by decide)
theorem startT_inj {s t : T} {i j k l : Nat} (h : startT s i k = startT t j l) : s = t ∧ i = j ∧ k = l := by
  have := Dg.join_inj _ _ h
  simp only [List.cons.injEq, and_true] at this
  exact ⟨this.1, Dg.dec_inj _ _ this.2.1, Dg.dec_inj _ _ this.2.2⟩

/-- P3.4. -/
theorem binds (s : T) (h i : Nat) (a b : T) (ts : List T) (hi : i < 2 ^ h) (hab : Dg.sum a ≠ Dg.sum b) (H : Has s h 30 ts) (C : HasC b i (sig s i a) (path (keys s h) i) ts)
    (A : Accepts (pub s h) b i (sig s i a) (path (keys s h) i)) : Shown ts := by
  have H15 : Has s h 15 ts := ⟨H.start, fun i hi k hk j hj => H.chain i hi k hk j (by omega), H.key, H.tree⟩
  rcases sound s h i b _ _ ts H15 C A with ⟨_, e, _⟩ | e
  · obtain ⟨k, hk, hlt⟩ := dg_less a b hab
    have ek : Dg.chain (start s i k) (dg a k) = Dg.chain (start s i k) (dg b k) := by rw [← sig_get s i a k hk, ← sig_get s i b k hk, e]
    have ha := dg_le a k hk
    have e2 : Dg.chain (Dg.chain (start s i k) (dg a k - dg b k)) (dg b k) = Dg.chain (start s i k) (dg b k) := by rw [Dg.chain_add, show dg a k - dg b k + dg b k = dg a k by omega, ek]
    rcases chain_meet _ _ ts _ e2 (fun j hj => ⟨by rw [Dg.chain_add]; exact H.chain i hi k hk _ (by omega), H.chain i hi k hk _ (by omega)⟩) with g | g
    · obtain ⟨d, hd⟩ : ∃ d, dg a k - dg b k = d + 1 := ⟨dg a k - dg b k - 1, by omega⟩
      rw [hd] at g
      exact ⟨_, H.start i hi k hk, _, H.chain i hi k hk d (by omega), startT_ne s i k _ (chain_start_isDigest s i k d), g.symm⟩
    · exact g
  · exact e

/-- P3.5. -/
theorem secrets (s t : T) (h i : Nat) (m : T) (ts : List T) (hi : i < 2 ^ h) (hst : s ≠ t) (Hs : Has s h 15 ts) (Ht : Has t h 15 ts)
    (A : Accepts (pub t h) m i (sig s i m) (path (keys s h) i)) : Shown ts := by
  have h8 : h ≤ 8 := by
    have := A.2.1
    rw [path_length _ (keys s h) i rfl, keys_length, plen_two h i hi] at this
    exact this
  have e1 := A.2.2.2.2.2
  have e2 := (verifies s h i m h8 hi).2.2.2.2.2.2
  have e : root (keys s h) = root (keys t h) := by rw [pub] at e1 e2; rw [← e1, ← e2]
  rcases roots_bind _ (keys s h) (keys t h) (keys_length s h) (keys_length t h) e with f | f
  · have h0 : 0 < 2 ^ h := Nat.two_pow_pos h
    have f0 : key s 0 = key t 0 := map_range_get (f := key s) (g := key t) f 0 h0
    rcases li_eq f0 (Hs.key 0 h0) (Ht.key 0 h0) with g | g
    · have g0 : Dg.chain (start s 0 0) 15 = Dg.chain (start t 0 0) 15 := map_range_get (f := fun k => Dg.chain (start s 0 k) 15) (g := fun k => Dg.chain (start t 0 k) 15) g 0 (by decide)
      rcases chain_meet _ _ ts _ g0 (fun j hj => ⟨Hs.chain 0 h0 0 (by decide) j (by omega), Ht.chain 0 h0 0 (by decide) j (by omega)⟩) with u | u
      · exact ⟨_, Hs.start 0 h0 0 (by decide), _, Ht.start 0 h0 0 (by decide), fun v => hst (startT_inj v).1, u⟩
      · exact u
    · exact g
  · exact f.sub (fun x hx => by
      rcases List.mem_append.1 hx with hx | hx
      · exact Hs.tree x hx
      · exact Ht.tree x hx)

/-- P3.3, for another index. -/
theorem indices (s : T) (h i j : Nat) (m : T) (ts : List T) (hi : i < 2 ^ h) (hj : j < 2 ^ h) (hij : i ≠ j) (H : Has s h 15 ts) (e : sig s i m = sig s j m) : Shown ts := by
  have e0 : Dg.chain (start s i 0) (dg m 0) = Dg.chain (start s j 0) (dg m 0) := by rw [← sig_get s i m 0 (by decide), ← sig_get s j m 0 (by decide), e]
  have hd := dg_le m 0 (by decide)
  rcases chain_meet _ _ ts _ e0 (fun n hn => ⟨H.chain i hi 0 (by decide) n (by omega), H.chain j hj 0 (by decide) n (by omega)⟩) with u | u
  · exact ⟨_, H.start i hi 0 (by decide), _, H.start j hj 0 (by decide), fun v => hij (startT_inj v).2.1, u⟩
  · exact u
end Go.Proofs.YthhfcijgcpnfcaaDoor.Sl
/-
  The lists of what is digested for a public key of at most 4 one-time keys and for a seal, in the order in which they are made, hold all that the facts on seals want.
-/
namespace Go.Proofs.YthhfcijgcpnfcaaDoor.Sl
open Go.Proofs.YthhfcijgcpnfcaaDoor.Tr

def chained (x : T) (n : Nat) : List T := (List.range (n + 1)).map (Dg.chain x)
theorem chained_mem (x : T) (n j : Nat) (h : j ≤ n) : Dg.chain x j ∈ chained x n := List.mem_map.2 ⟨j, List.mem_range.2 (by omega), rfl⟩

/-- What is digested for one key. -/
def madeKey (s : T) (n i : Nat) : List T := ((List.range 18).flatMap fun k => startT s i k :: chained (start s i k) n) ++ [Dg.join (ends s i), Dg.join [wLeaf, key s i]]
def over : List T → List T
  | a :: b :: l => node a b :: over l
  | _ => []
def overT : List T → List T
  | a :: b :: l => Dg.join [wNode, a, b] :: overT l
  | _ => []
/-- What is digested above the leaves. -/
def tower : Nat → List T → List T
  | 0, _ => []
  | f + 1, l => if 1 < l.length then overT l ++ tower f (over l) else []
def made (s : T) (h n : Nat) : List T := (List.range (2 ^ h)).flatMap (madeKey s n) ++ tower (h + 1) ((List.range (2 ^ h)).map fun i => leaf (key s i))

theorem madeKey_mem (s : T) (h n i : Nat) (hi : i < 2 ^ h) (x : T) (hx : x ∈ madeKey s n i) : x ∈ made s h n :=
  List.mem_append_left _ (List.mem_flatMap.2 ⟨i, List.mem_range.2 hi, hx⟩)
theorem madeKey_leaf (s : T) (n i : Nat) : Dg.join [wLeaf, key s i] ∈ madeKey s n i := List.mem_append_right _ (List.mem_cons_of_mem _ List.mem_cons_self)
theorem madeKey_key (s : T) (n i : Nat) : Dg.join (ends s i) ∈ madeKey s n i := List.mem_append_right _ List.mem_cons_self
theorem madeKey_start (s : T) (n i k : Nat) (hk : k < 18) : startT s i k ∈ madeKey s n i :=
  List.mem_append_left _ (List.mem_flatMap.2 ⟨k, List.mem_range.2 hk, List.mem_cons_self⟩)
theorem madeKey_chain (s : T) (n i k j : Nat) (hk : k < 18) (hj : j ≤ n) : Dg.chain (start s i k) j ∈ madeKey s n i :=
  List.mem_append_left _ (List.mem_flatMap.2 ⟨k, List.mem_range.2 hk, List.mem_cons_of_mem _ (chained_mem _ n j hj)⟩)

theorem half_2 : half 2 = 1 := half_two 0
theorem half_4 : half 4 = 2 := half_two 1
theorem texts_pair (a b : T) : texts [a, b] = [Dg.join [wLeaf, a], Dg.join [wLeaf, b], Dg.join [wNode, leaf a, leaf b]] := by
  rw [texts_two (by simp)]
  simp [half_2, texts_one, root_one]
theorem root_pair (a b : T) : root [a, b] = node (leaf a) (leaf b) := by
  rw [root_two (by simp)]
  simp [half_2, root_one]
theorem texts_four (a b c d : T) : texts [a, b, c, d] = texts [a, b] ++ texts [c, d] ++ [Dg.join [wNode, root [a, b], root [c, d]]] := by
  rw [texts_two (by simp)]
  simp [half_4]

theorem made_tree (s : T) (h n : Nat) (hh : h ≤ 2) : ∀ x, x ∈ texts (keys s h) → x ∈ made s h n := by
  intro x hx
  have lf : ∀ i, i < 2 ^ h → Dg.join [wLeaf, key s i] ∈ made s h n := fun i hi => madeKey_mem s h n i hi _ (madeKey_leaf s n i)
  have tw : ∀ y, y ∈ tower (h + 1) ((List.range (2 ^ h)).map fun i => leaf (key s i)) → y ∈ made s h n := fun y hy => List.mem_append_right _ hy
  rcases (show h = 0 ∨ h = 1 ∨ h = 2 by omega) with rfl | rfl | rfl
  · have e : keys s 0 = [key s 0] := rfl
    rw [e, texts_one] at hx
    rw [List.mem_singleton.1 hx]
    exact lf 0 (by decide)
  · have e : keys s 1 = [key s 0, key s 1] := rfl
    have e2 : (List.range (2 ^ 1)).map (fun i => leaf (key s i)) = [leaf (key s 0), leaf (key s 1)] := rfl
    rw [e, texts_pair] at hx
    rw [e2] at tw
    simp only [List.mem_cons, List.not_mem_nil, or_false] at hx
    rcases hx with rfl | rfl | rfl
    · exact lf 0 (by decide)
    · exact lf 1 (by decide)
    · exact tw _ (by simp [tower, overT])
  · have e : keys s 2 = [key s 0, key s 1, key s 2, key s 3] := rfl
    have e2 : (List.range (2 ^ 2)).map (fun i => leaf (key s i)) = [leaf (key s 0), leaf (key s 1), leaf (key s 2), leaf (key s 3)] := rfl
    rw [e, texts_four, texts_pair, texts_pair, root_pair, root_pair] at hx
    rw [e2] at tw
    simp only [List.mem_append, List.mem_cons, List.not_mem_nil, or_false] at hx
    rcases hx with ((rfl | rfl | rfl) | (rfl | rfl | rfl)) | rfl
    · exact lf 0 (by decide)
    · exact lf 1 (by decide)
    · exact tw _ (by simp [tower, overT, over])
    · exact lf 2 (by decide)
    · exact lf 3 (by decide)
    · exact tw _ (by simp [tower, overT, over])
    · exact tw _ (by simp [tower, overT, over])

theorem made_has (s : T) (h n : Nat) (hh : h ≤ 2) : Has s h n (made s h n) :=
  ⟨fun i hi k hk => madeKey_mem s h n i hi _ (madeKey_start s n i k hk), fun i hi k hk j hj => madeKey_mem s h n i hi _ (madeKey_chain s n i k j hk hj),
    fun i hi => madeKey_mem s h n i hi _ (madeKey_key s n i), made_tree s h n hh⟩

/-- What is digested to verify a seal of 18 texts. -/
def checked (m : T) (i : Nat) (sg q : List T) : List T :=
  ((List.range 18).flatMap fun k => chained (sg.getD k []) (15 - dg m k)) ++ [Dg.join (cends m sg), Dg.join [wLeaf, li (cends m sg)]] ++ ctexts (leaf (li (cends m sg))) i q

theorem checked_has (m : T) (i : Nat) (sg q : List T) (hi : i < 2 ^ q.length) : HasC m i sg q (checked m i sg q) := by
  refine ⟨fun k hk j hj => ?_, ?_, fun x hx => ?_⟩
  · exact List.mem_append_left _ (List.mem_append_left _ (List.mem_flatMap.2 ⟨k, List.mem_range.2 hk, chained_mem _ _ j hj⟩))
  · exact List.mem_append_left _ (List.mem_append_right _ List.mem_cons_self)
  · rw [ptexts_climb q.length i _ q rfl hi] at hx
    rcases List.mem_cons.1 hx with hx | hx
    · rw [hx]; exact List.mem_append_left _ (List.mem_append_right _ (List.mem_cons_of_mem _ List.mem_cons_self))
    · exact List.mem_append_right _ hx

theorem Has.sub {s : T} {h n : Nat} {l ts : List T} (H : Has s h n l) (hs : ∀ x, x ∈ l → x ∈ ts) : Has s h n ts :=
  ⟨fun i hi k hk => hs _ (H.start i hi k hk), fun i hi k hk j hj => hs _ (H.chain i hi k hk j hj), fun i hi => hs _ (H.key i hi), fun x hx => hs _ (H.tree x hx)⟩
theorem HasC.sub {m : T} {i : Nat} {sg q l ts : List T} (H : HasC m i sg q l) (hs : ∀ x, x ∈ l → x ∈ ts) : HasC m i sg q ts :=
  ⟨fun k hk j hj => hs _ (H.chain k hk j hj), hs _ H.key, fun x hx => hs _ (H.tree x hx)⟩

/-- The statements' ends. -/
theorem sound_shown (s : T) (h i : Nat) (m : T) (sg q : List T) (hh : h ≤ 2) (A : Accepts (pub s h) m i sg q) :
    (i < 2 ^ h ∧ sg = sig s i m ∧ q = path (keys s h) i) ∨ Shown (made s h 15 ++ checked m i sg q) :=
  sound s h i m sg q _ ((made_has s h 15 hh).sub fun _ hx => List.mem_append_left _ hx) ((checked_has m i sg q A.2.2.2.2.1).sub fun _ hx => List.mem_append_right _ hx) A
theorem binds_shown (s : T) (h i : Nat) (a b : T) (hh : h ≤ 2) (hi : i < 2 ^ h) (hab : Dg.sum a ≠ Dg.sum b) (A : Accepts (pub s h) b i (sig s i a) (path (keys s h) i)) :
    Shown (made s h 30 ++ checked b i (sig s i a) (path (keys s h) i)) :=
  binds s h i a b _ hi hab ((made_has s h 30 hh).sub fun _ hx => List.mem_append_left _ hx) ((checked_has b i _ _ A.2.2.2.2.1).sub fun _ hx => List.mem_append_right _ hx) A
theorem secrets_shown (s t : T) (h i : Nat) (m : T) (hh : h ≤ 2) (hi : i < 2 ^ h) (hst : s ≠ t) (A : Accepts (pub t h) m i (sig s i m) (path (keys s h) i)) :
    Shown (made s h 15 ++ made t h 15) :=
  secrets s t h i m _ hi hst ((made_has s h 15 hh).sub fun _ hx => List.mem_append_left _ hx) ((made_has t h 15 hh).sub fun _ hx => List.mem_append_right _ hx) A
/-- One element or the index of a seal is another one. -/
theorem changes_shown (s : T) (h i j : Nat) (m : T) (sg q : List T) (hh : h ≤ 2) (hi : i < 2 ^ h) (hn : ¬ (j = i ∧ sg = sig s i m ∧ q = path (keys s h) i))
    (hone : j = i ∨ (sg = sig s i m ∧ q = path (keys s h) i)) (A : Accepts (pub s h) m j sg q) : Shown (made s h 15 ++ checked m j sg q) := by
  rcases sound_shown s h j m sg q hh A with ⟨hj, e1, e2⟩ | e
  · rcases hone with rfl | ⟨f1, f2⟩
    · exact absurd ⟨rfl, e1, e2⟩ hn
    · have hij : i ≠ j := fun e => hn ⟨e.symm, f1, f2⟩
      exact indices s h i j m _ hi hj hij ((made_has s h 15 hh).sub fun _ hx => List.mem_append_left _ hx) (by rw [← f1, ← e1])
  · exact e
end Go.Proofs.YthhfcijgcpnfcaaDoor.Sl
