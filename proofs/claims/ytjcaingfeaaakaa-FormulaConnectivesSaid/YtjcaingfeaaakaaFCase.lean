/-
  Domains and cases in arithmetic: what fits, what is less, the least case and the next one (P6.5).
-/
import Init.Data.List.Lemmas
namespace Go.Proofs.Ytjcaingfeaaakaa.Fc

/-- A fact: its name, its kind, its least and its greatest value. -/
structure Fact where
  name : List UInt8
  kind : Int
  lo : Int
  hi : Int

/-- Whether the values are within the bounds, one for each fact. -/
def within : List Fact → List Int → Bool
  | [], [] => true
  | f :: d, x :: c => (decide (f.lo ≤ x) && decide (x ≤ f.hi)) && within d c
  | _, _ => false
def less : List Int → List Int → Bool
  | x :: a, y :: b => if x = y then less a b else decide (x < y)
  | _, _ => false
def least (d : List Fact) : List Int := d.map (·.lo)
def next : List Fact → List Int → Option (List Int)
  | f :: d, x :: c => match next d c with
    | some n => some (x :: n)
    | none => if x < f.hi then some ((x + 1) :: least d) else none
  | _, _ => none
/-- Whether all values are the greatest ones. -/
def last : List Fact → List Int → Bool
  | f :: d, x :: c => decide (x = f.hi) && last d c
  | _, _ => true

theorem within_cons {f : Fact} {d : List Fact} {x : Int} {c : List Int} : within (f :: d) (x :: c) = true ↔ (f.lo ≤ x ∧ x ≤ f.hi) ∧ within d c = true := by
  simp [within]
theorem within_len : ∀ {d : List Fact} {c : List Int}, within d c = true → c.length = d.length
  | [], [], _ => rfl
  | f :: d, x :: c, h => by rw [List.length_cons, List.length_cons, within_len (within_cons.1 h).2]
  | [], _ :: _, h => by cases h
  | _ :: _, [], h => by cases h
theorem within_get : ∀ {d : List Fact} {c : List Int}, within d c = true ↔ c.length = d.length ∧ ∀ (i : Nat) (f : Fact) (x : Int), d[i]? = some f → c[i]? = some x → f.lo ≤ x ∧ x ≤ f.hi
  | [], [] => by simp [within]
  | [], _ :: _ => by simp [within]
  | _ :: _, [] => by simp [within]
  | f :: d, x :: c => by
    rw [within_cons, within_get (d := d) (c := c)]
    constructor
    · rintro ⟨h1, h2, h3⟩
      refine ⟨by simp [h2], fun i g y hg hy => ?_⟩
      cases i with
      | zero =>
        have e1 : f = g := by simpa using hg
        have e2 : x = y := by simpa using hy
        subst e1 e2; exact h1
      | succ i => exact h3 i g y (by simpa using hg) (by simpa using hy)
    · rintro ⟨h1, h2⟩
      exact ⟨h2 0 f x rfl rfl, by simpa using h1, fun i g y hg hy => h2 (i + 1) g y (by simpa using hg) (by simpa using hy)⟩
theorem least_within : ∀ {d : List Fact}, (∀ f ∈ d, f.lo ≤ f.hi) → within d (least d) = true
  | [], _ => rfl
  | f :: d, h => by
    rw [least, List.map_cons, within_cons]
    exact ⟨⟨Int.le_refl _, h f (by simp)⟩, least_within (d := d) (fun g hg => h g (by simp [hg]))⟩
theorem not_less_least : ∀ {d : List Fact} {a : List Int}, within d a = true → less a (least d) = false
  | [], [], _ => rfl
  | [], _ :: _, h => by cases h
  | _ :: _, [], h => by cases h
  | f :: d, x :: a, h => by
    obtain ⟨⟨h1, _⟩, h2⟩ := within_cons.1 h
    rw [least, List.map_cons, less]
    by_cases e : x = f.lo
    · rw [if_pos e]; exact not_less_least h2
    · rw [if_neg e, decide_eq_false_iff_not]; omega
theorem next_none : ∀ {d : List Fact} {c : List Int}, within d c = true → (next d c = none ↔ last d c = true)
  | [], [], _ => by simp [next, last]
  | [], _ :: _, h => by cases h
  | _ :: _, [], h => by cases h
  | f :: d, x :: c, h => by
    obtain ⟨⟨_, h1⟩, h2⟩ := within_cons.1 h
    have ih := next_none h2
    rw [next, last]
    cases hn : next d c with
    | some n =>
      rw [hn] at ih
      have : last d c = false := by
        cases hl : last d c with
        | false => rfl
        | true => exact absurd (ih.2 hl) (by simp)
      simp [this]
    | none =>
      have : last d c = true := ih.1 hn
      simp only [this, Bool.and_true, decide_eq_true_eq]
      by_cases e : x < f.hi
      · rw [if_pos e]; constructor
        · intro h; cases h
        · intro h; omega
      · rw [if_neg e]; constructor
        · intro _; omega
        · intro _; rfl
theorem next_some : ∀ {d : List Fact} {c n : List Int}, (∀ f ∈ d, f.lo ≤ f.hi) → within d c = true → next d c = some n → within d n = true ∧ less c n = true
  | [], [], _, _, _, h => by cases h
  | [], _ :: _, _, _, h, _ => by cases h
  | _ :: _, [], _, _, h, _ => by cases h
  | f :: d, x :: c, n, hv, h, hn => by
    obtain ⟨⟨h0, h1⟩, h2⟩ := within_cons.1 h
    have hv2 : ∀ g ∈ d, g.lo ≤ g.hi := fun g hg => hv g (by simp [hg])
    rw [next] at hn
    cases hd : next d c with
    | some m =>
      rw [hd] at hn
      have e : x :: m = n := Option.some.inj hn
      subst e
      obtain ⟨i1, i2⟩ := next_some hv2 h2 hd
      exact ⟨within_cons.2 ⟨⟨h0, h1⟩, i1⟩, by rw [less, if_pos rfl]; exact i2⟩
    | none =>
      rw [hd] at hn
      dsimp only at hn
      by_cases e : x < f.hi
      · rw [if_pos e] at hn
        have e2 : (x + 1) :: least d = n := Option.some.inj hn
        subst e2
        exact ⟨within_cons.2 ⟨⟨by omega, by omega⟩, least_within hv2⟩, by rw [less, if_neg (by omega), decide_eq_true_iff]; omega⟩
      · rw [if_neg e] at hn; cases hn
/-- Of two cases within the bounds, of which the first one is less, the next of the first is not greater than the second. -/
theorem next_least : ∀ {d : List Fact} {a b : List Int}, within d a = true → within d b = true → less a b = true → ∃ n, next d a = some n ∧ less b n = false
  | [], [], _, _, _, h => by cases h
  | [], _ :: _, _, h, _, _ => by cases h
  | _ :: _, [], _, h, _, _ => by cases h
  | _ :: _, _ :: _, [], _, h, _ => by cases h
  | f :: d, x :: a, y :: b, ha, hb, hl => by
    obtain ⟨⟨a0, a1⟩, a2⟩ := within_cons.1 ha
    obtain ⟨⟨b0, b1⟩, b2⟩ := within_cons.1 hb
    rw [less] at hl
    by_cases e : x = y
    · rw [if_pos e] at hl
      obtain ⟨n, h1, h2⟩ := next_least a2 b2 hl
      exact ⟨x :: n, by rw [next, h1], by rw [less, if_pos e.symm]; exact h2⟩
    · rw [if_neg e, decide_eq_true_iff] at hl
      cases hd : next d a with
      | some n =>
        exact ⟨x :: n, by rw [next, hd], by rw [less, if_neg (by omega), decide_eq_false_iff_not]; omega⟩
      | none =>
        refine ⟨(x + 1) :: least d, by rw [next, hd]; exact if_pos (by omega), ?_⟩
        rw [less]
        by_cases e2 : y = x + 1
        · rw [if_pos e2]; exact not_less_least b2
        · rw [if_neg e2, decide_eq_false_iff_not]; omega
/-- How the next case is found from the right. -/
theorem next_at : ∀ {d1 : List Fact} {c1 : List Int} {f : Fact} {d2 : List Fact} {x : Int} {c2 : List Int}, d1.length = c1.length → within d2 c2 = true → last d2 c2 = true → x < f.hi →
    next (d1 ++ f :: d2) (c1 ++ x :: c2) = some (c1 ++ (x + 1) :: least d2)
  | [], [], f, d2, x, c2, _, hw, hl, hx => by
    rw [List.nil_append, List.nil_append, List.nil_append, next, (next_none hw).2 hl]
    exact if_pos hx
  | [], _ :: _, _, _, _, _, h, _, _, _ => by cases h
  | _ :: _, [], _, _, _, _, h, _, _, _ => by cases h
  | g :: d1, y :: c1, f, d2, x, c2, h, hw, hl, hx => by
    rw [List.cons_append, List.cons_append, next, next_at (by simpa using h) hw hl hx]
    rfl
theorem last_cons {f : Fact} {d : List Fact} {x : Int} {c : List Int} : last (f :: d) (x :: c) = (decide (x = f.hi) && last d c) := rfl
theorem last_drop {d : List Fact} {c : List Int} (i : Nat) (f : Fact) (x : Int) (hf : d[i]? = some f) (hx : c[i]? = some x) : last (d.drop i) (c.drop i) = (decide (x = f.hi) && last (d.drop (i + 1)) (c.drop (i + 1))) := by
  obtain ⟨h1, e1⟩ := List.getElem?_eq_some_iff.1 hf
  obtain ⟨h2, e2⟩ := List.getElem?_eq_some_iff.1 hx
  rw [List.drop_eq_getElem_cons h1, List.drop_eq_getElem_cons h2, e1, e2, last_cons]
theorem within_drop {d : List Fact} {c : List Int} (hw : within d c = true) (i : Nat) : within (d.drop i) (c.drop i) = true := by
  obtain ⟨h1, h2⟩ := within_get.1 hw
  refine within_get.2 ⟨by rw [List.length_drop, List.length_drop, h1], fun j f x hf hx => ?_⟩
  rw [List.getElem?_drop] at hf hx
  exact h2 _ f x hf hx
end Go.Proofs.Ytjcaingfeaaakaa.Fc
