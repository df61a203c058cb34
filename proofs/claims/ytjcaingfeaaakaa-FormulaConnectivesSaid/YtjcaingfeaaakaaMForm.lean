/-
  Formulas in arithmetic: size, depth, terms, what holds, expansion (P7.2, P7.4 to P7.6, P7.8). Core Lean alone; laid before the code of layer 7.
-/
import Init.Data.List.Lemmas
namespace Go.Proofs.Ytjcaingfeaaakaa.Fm

/-- A formula: a node with its kids. -/
inductive Fo where
  | mk (op : Int) (name : List UInt8) (cmp : Int) (n : Int) (kids : List Fo)
def Fo.op : Fo → Int | .mk o _ _ _ _ => o
def Fo.name : Fo → List UInt8 | .mk _ x _ _ _ => x
def Fo.kids : Fo → List Fo | .mk _ _ _ _ k => k
mutual
def size : Fo → Nat
  | .mk _ _ _ _ ks => 1 + sizeL ks
def sizeL : List Fo → Nat
  | [] => 0
  | k :: ks => size k + sizeL ks
end
mutual
def depth : Fo → Nat
  | .mk _ _ _ _ ks => 1 + depthL ks
def depthL : List Fo → Nat
  | [] => 0
  | k :: ks => max (depth k) (depthL ks)
end
/-- How a value compares with a number. -/
def compares (cmp x n : Int) : Bool :=
  if cmp = 1 then decide (x = n) else if cmp = 2 then decide (x ≠ n) else if cmp = 3 then decide (x < n) else if cmp = 4 then decide (x ≤ n) else if cmp = 5 then decide (x > n) else if cmp = 6 then decide (x ≥ n) else false
mutual
/-- Whether a formula holds for values and terms. -/
def holds (v : List UInt8 → Int) (ts : List UInt8 → Bool) : Fo → Bool
  | .mk o x cmp n ks => if o = 1 then true else if o = 3 then compares cmp (v x) n else if o = 4 then ts x else if o = 5 then !(anyL v ts ks) else if o = 6 then allL v ts ks else if o = 7 then anyL v ts ks else false
def allL (v : List UInt8 → Int) (ts : List UInt8 → Bool) : List Fo → Bool
  | [] => true
  | k :: ks => holds v ts k && allL v ts ks
def anyL (v : List UInt8 → Int) (ts : List UInt8 → Bool) : List Fo → Bool
  | [] => false
  | k :: ks => holds v ts k || anyL v ts ks
end
mutual
def expand (x : List UInt8) (b : Fo) : Fo → Fo
  | .mk o y cmp n ks => if o = 4 ∧ y = x then b else .mk o y cmp n (expandL x b ks)
def expandL (x : List UInt8) (b : Fo) : List Fo → List Fo
  | [] => []
  | k :: ks => expand x b k :: expandL x b ks
end
mutual
/-- The Names of the nodes with OpTerm, in their order, with repetitions. -/
def termsR : Fo → List (List UInt8)
  | .mk o x _ _ ks => (if o = 4 then [x] else []) ++ termsRL ks
def termsRL : List Fo → List (List UInt8)
  | [] => []
  | k :: ks => termsR k ++ termsRL ks
end
mutual
/-- The Names of the tests. -/
def tested : Fo → List (List UInt8)
  | .mk o x _ _ ks => (if o = 3 then [x] else []) ++ testedL ks
def testedL : List Fo → List (List UInt8)
  | [] => []
  | k :: ks => tested k ++ testedL ks
end
mutual
/-- How often a term occurs (not within one that is replaced). -/
def times (x : List UInt8) : Fo → Nat
  | .mk o y _ _ ks => if o = 4 ∧ y = x then 1 else timesL x ks
def timesL (x : List UInt8) : List Fo → Nat
  | [] => 0
  | k :: ks => times x k + timesL x ks
end
mutual
/-- All terms have a Name alone. -/
def plain : Fo → Bool
  | .mk o _ cmp n ks => if o = 4 then ks.isEmpty && decide (cmp = 0) && decide (n = 0) else plainL ks
def plainL : List Fo → Bool
  | [] => true
  | k :: ks => plain k && plainL ks
end
/-- The list with a term added, or taken out. -/
def upd (ts : List UInt8 → Bool) (x : List UInt8) (b : Bool) (y : List UInt8) : Bool := if y = x then b else ts y
mutual
theorem holds_expand (v : List UInt8 → Int) (ts : List UInt8 → Bool) (x : List UInt8) (b : Fo) : ∀ f, holds v ts (expand x b f) = holds v (upd ts x (holds v ts b)) f
  | .mk o y cmp n ks => by
    rw [expand]
    by_cases h : o = 4 ∧ y = x
    · obtain ⟨rfl, rfl⟩ := h
      rw [if_pos ⟨rfl, rfl⟩, holds, if_neg (by decide), if_neg (by decide), if_pos rfl, upd, if_pos rfl]
    · rw [if_neg h, holds, holds, all_expand v ts x b ks, any_expand v ts x b ks]
      by_cases h4 : o = 4
      · have hy : ¬ y = x := fun e => h ⟨h4, e⟩
        rw [upd, if_neg hy]
      · rw [if_neg h4, if_neg h4]
theorem all_expand (v : List UInt8 → Int) (ts : List UInt8 → Bool) (x : List UInt8) (b : Fo) : ∀ l, allL v ts (expandL x b l) = allL v (upd ts x (holds v ts b)) l
  | [] => rfl
  | k :: ks => by rw [expandL, allL, allL, holds_expand v ts x b k, all_expand v ts x b ks]
theorem any_expand (v : List UInt8 → Int) (ts : List UInt8 → Bool) (x : List UInt8) (b : Fo) : ∀ l, anyL v ts (expandL x b l) = anyL v (upd ts x (holds v ts b)) l
  | [] => rfl
  | k :: ks => by rw [expandL, anyL, anyL, holds_expand v ts x b k, any_expand v ts x b ks]
end
mutual
theorem holds_same {v v2 : List UInt8 → Int} {ts ts2 : List UInt8 → Bool} : ∀ f, (∀ x ∈ tested f, v x = v2 x) → (∀ x ∈ termsR f, ts x = ts2 x) → holds v ts f = holds v2 ts2 f
  | .mk o y cmp n ks, h1, h2 => by
    rw [tested] at h1
    rw [termsR] at h2
    have k1 : ∀ x ∈ testedL ks, v x = v2 x := fun x hx => h1 x (List.mem_append_right _ hx)
    have k2 : ∀ x ∈ termsRL ks, ts x = ts2 x := fun x hx => h2 x (List.mem_append_right _ hx)
    rw [holds, holds, all_same ks k1 k2, any_same ks k1 k2]
    by_cases h3 : o = 3
    · rw [h1 y (List.mem_append_left _ (by rw [if_pos h3]; simp)), if_pos h3, if_pos h3]
    · rw [if_neg h3, if_neg h3]
      by_cases h4 : o = 4
      · rw [h2 y (List.mem_append_left _ (by rw [if_pos h4]; simp))]
      · rw [if_neg h4, if_neg h4]
theorem all_same {v v2 : List UInt8 → Int} {ts ts2 : List UInt8 → Bool} : ∀ l, (∀ x ∈ testedL l, v x = v2 x) → (∀ x ∈ termsRL l, ts x = ts2 x) → allL v ts l = allL v2 ts2 l
  | [], _, _ => rfl
  | k :: ks, h1, h2 => by
    rw [testedL] at h1
    rw [termsRL] at h2
    rw [allL, allL, holds_same k (fun x hx => h1 x (List.mem_append_left _ hx)) (fun x hx => h2 x (List.mem_append_left _ hx)), all_same ks (fun x hx => h1 x (List.mem_append_right _ hx)) (fun x hx => h2 x (List.mem_append_right _ hx))]
theorem any_same {v v2 : List UInt8 → Int} {ts ts2 : List UInt8 → Bool} : ∀ l, (∀ x ∈ testedL l, v x = v2 x) → (∀ x ∈ termsRL l, ts x = ts2 x) → anyL v ts l = anyL v2 ts2 l
  | [], _, _ => rfl
  | k :: ks, h1, h2 => by
    rw [testedL] at h1
    rw [termsRL] at h2
    rw [anyL, anyL, holds_same k (fun x hx => h1 x (List.mem_append_left _ hx)) (fun x hx => h2 x (List.mem_append_left _ hx)), any_same ks (fun x hx => h1 x (List.mem_append_right _ hx)) (fun x hx => h2 x (List.mem_append_right _ hx))]
end
mutual
theorem size_expand (x : List UInt8) (b : Fo) : ∀ f, plain f = true → size (expand x b f) + times x f = size f + times x f * size b
  | .mk o y cmp n ks, hp => by
    rw [expand, times]
    rw [plain] at hp
    by_cases h : o = 4 ∧ y = x
    · rw [if_pos h, if_pos h, size]
      rw [if_pos h.1] at hp
      have hk : ks = [] := by
        cases ks with
        | nil => rfl
        | cons k ks => simp at hp
      subst hk
      rw [sizeL]; omega
    · rw [if_neg h, if_neg h, size, size]
      have hl : plainL ks = true := by
        by_cases h4 : o = 4
        · rw [if_pos h4] at hp
          have hk : ks = [] := by
            cases ks with
            | nil => rfl
            | cons k ks => simp at hp
          subst hk; rfl
        · rw [if_neg h4] at hp; exact hp
      have := size_expandL x b ks hl
      omega
theorem size_expandL (x : List UInt8) (b : Fo) : ∀ l, plainL l = true → sizeL (expandL x b l) + timesL x l = sizeL l + timesL x l * size b
  | [], _ => by simp [expandL, sizeL, timesL]
  | k :: ks, hp => by
    rw [plainL, Bool.and_eq_true] at hp
    have h1 := size_expand x b k hp.1
    have h2 := size_expandL x b ks hp.2
    rw [expandL, sizeL, sizeL, timesL, Nat.add_mul]
    omega
end
mutual
theorem expand_self (x : List UInt8) : ∀ f, plain f = true → expand x (.mk 4 x 0 0 []) f = f
  | .mk o y cmp n ks, hp => by
    rw [expand]
    rw [plain] at hp
    by_cases h : o = 4 ∧ y = x
    · rw [if_pos h]
      obtain ⟨rfl, rfl⟩ := h
      rw [if_pos rfl, Bool.and_eq_true, Bool.and_eq_true, decide_eq_true_iff, decide_eq_true_iff] at hp
      obtain ⟨⟨h1, rfl⟩, rfl⟩ := hp
      cases ks with
      | nil => rfl
      | cons k ks => simp at h1
    · rw [if_neg h]
      have hl : plainL ks = true := by
        by_cases h4 : o = 4
        · rw [if_pos h4] at hp
          have hk : ks = [] := by
            cases ks with
            | nil => rfl
            | cons k ks => simp at hp
          subst hk; rfl
        · rw [if_neg h4] at hp; exact hp
      rw [expand_selfL x ks hl]
theorem expand_selfL (x : List UInt8) : ∀ l, plainL l = true → expandL x (.mk 4 x 0 0 []) l = l
  | [], _ => rfl
  | k :: ks, hp => by
    rw [plainL, Bool.and_eq_true] at hp
    rw [expandL, expand_self x k hp.1, expand_selfL x ks hp.2]
end
end Go.Proofs.Ytjcaingfeaaakaa.Fm
