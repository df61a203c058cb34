import Derived.Test.YtoamkanofhhjfaaGreatDoorKELexEnd
import Init.Data.List.Lemmas
/-
  Texts that are spelt from tokens with gaps before them: their tokens (for the canonical texts of P6.2 and P6.3, and for P6.6).
-/
namespace Go.Proofs.YtoamkanofhhjfaaGreatDoor.Lx

/-- A token with the gap before it: the gap, the kind, the text, the number. -/
abbrev Word := T × Nat × T × Nat
/-- A text of such tokens, with a gap at its end. -/
def spell (q : T) : List Word → T
  | [] => q
  | (p, _, t, _) :: ws => p ++ (t ++ spell q ws)
/-- Its tokens, from an offset on. -/
def spelt : List Word → Nat → List Tok
  | [], _ => []
  | (p, k, t, n) :: ws, a => ⟨k, t, n, a + p.length⟩ :: spelt ws (a + p.length + t.length)
/-- A gap that ends before what is no gap. -/
def Gap (p : T) : Prop := ∀ d y, isGap d = false → skip false (p ++ d :: y) = d :: y
def Spells (q : T) : List Word → Prop
  | [] => gaps q
  | (p, k, t, n) :: ws => Gap p ∧ Good k t n ∧ stop t (spell q ws) = true ∧ Spells q ws
theorem gap_nil : Gap [] := fun _ y h => skip_gap h y
theorem gap_blank {c : UInt8} (hc : isBlank c = true) : Gap [c] := fun d y h => by
  rw [List.singleton_append, skip, if_pos hc]; exact skip_gap h y
theorem lex_spell {q : T} : ∀ {ws : List Word}, Spells q ws → ∀ a, lex (spell q ws) a = (spelt ws a, none)
  | [], h, a => lex_done h a
  | (p, k, t, n) :: ws, ⟨h1, h2, h3, h4⟩, a => by
    obtain ⟨c, r, e, hc⟩ := h2.head
    have hk : skip false (p ++ (t ++ spell q ws)) = t ++ spell q ws := by
      rw [e, List.cons_append]; exact h1 c _ hc
    rw [spell, lex_tok hk h2 h3 a, lex_spell h4, spelt]
theorem spelt_len : ∀ (ws : List Word) (a : Nat), (spelt ws a).length = ws.length
  | [], _ => rfl
  | (_, _, _, _) :: ws, a => by rw [spelt, List.length_cons, List.length_cons, spelt_len ws]
theorem spelt_get : ∀ (ws : List Word) (a i : Nat) (w : Word), ws[i]? = some w → ∃ b, (spelt ws a)[i]? = some ⟨w.2.1, w.2.2.1, w.2.2.2, b⟩
  | [], _, _, _, h => by simp at h
  | (p, k, t, n) :: ws, a, 0, w, h => by
    have e : (p, k, t, n) = w := by simpa using h
    subst e
    exact ⟨a + p.length, rfl⟩
  | (p, k, t, n) :: ws, a, i + 1, w, h => by
    obtain ⟨b, hb⟩ := spelt_get ws (a + p.length + t.length) i w (by simpa using h)
    exact ⟨b, by rw [spelt]; simpa using hb⟩
theorem spell_app (q : T) : ∀ ws vs : List Word, spell q (ws ++ vs) = spell (spell q vs) ws
  | [], vs => rfl
  | (p, k, t, n) :: ws, vs => by rw [List.cons_append, spell, spell, spell_app q ws vs]
/-- A gap that is a blank, or one behind a name or a number before a symbol, parts tokens. -/
theorem stop_blank {k : Nat} {t : T} {n : Nat} (_h : Good k t n) {c : UInt8} (hc : isGap c = true) (x : T) : stop t (c :: x) = true := by
  have h1 : headWord (c :: x) = false := by
    show isWord c = false
    unfold isGap isBlank at hc
    simp only [Bool.or_eq_true, beq_iff_eq] at hc
    rcases hc with ((rfl | rfl) | rfl) | rfl <;> rfl
  have h2 : headEq (c :: x) = false := by
    show (c == 61) = false
    unfold isGap isBlank at hc
    simp only [Bool.or_eq_true, beq_iff_eq] at hc
    rcases hc with ((rfl | rfl) | rfl) | rfl <;> rfl
  cases t with
  | nil => rfl
  | cons d r =>
    show (if (isLetter d || isDigit d) = true then !headWord (c :: x) else if (r.isEmpty && isTwo d) = true then !headEq (c :: x) else true) = true
    rw [h1, h2]
    simp
/-- A name or a number before a symbol. -/
theorem stop_symbol {k : Nat} {t : T} {n : Nat} (h : Good k t n) (hk : k ≠ 3) {c : UInt8} (hc : isWord c = false) (x : T) : stop t (c :: x) = true := by
  have h1 : headWord (c :: x) = false := hc
  rcases h with ⟨_, _, d, r, rfl, hd, _⟩ | ⟨_, _, d, r, rfl, hd, _⟩ | ⟨h, _⟩
  · show (if (isLetter d || isDigit d) = true then !headWord (c :: x) else _) = true
    rw [hd, h1]; rfl
  · show (if (isLetter d || isDigit d) = true then !headWord (c :: x) else _) = true
    rw [hd, h1, Bool.or_true]; rfl
  · exact absurd h hk
end Go.Proofs.YtoamkanofhhjfaaGreatDoor.Lx
/-
  Domains and cases in arithmetic: what fits, what is less, the least case and the next one (P6.5).
-/
namespace Go.Proofs.YtoamkanofhhjfaaGreatDoor.Fc

/-- A fact: its name, its kind, its least and its greatest value. -/
structure Fact where
  name : List UInt8
  kind : Int
  lo : Int
  hi : Int

/-- Whether the values are within the bounds, one for each fact. -/
def within : List Fact → List Int → Bool
  | [], [] => true
  | f :: d, x :: c => (decide (f.lo ≤ x) && decide (x ≤ f.hi)) && within d c
  | _, _ => false
def less : List Int → List Int → Bool
  | x :: a, y :: b => if x = y then less a b else decide (x < y)
  | _, _ => false
def least (d : List Fact) : List Int := d.map (·.lo)
def next : List Fact → List Int → Option (List Int)
  | f :: d, x :: c => match next d c with
    | some n => some (x :: n)
    | none => if x < f.hi then some ((x + 1) :: least d) else none
  | _, _ => none
/-- Whether all values are the greatest ones. -/
def last : List Fact → List Int → Bool
  | f :: d, x :: c => decide (x = f.hi) && last d c
  | _, _ => true

theorem within_cons {f : Fact} {d : List Fact} {x : Int} {c : List Int} : within (f :: d) (x :: c) = true ↔ (f.lo ≤ x ∧ x ≤ f.hi) ∧ within d c = true := by
  simp [within]
theorem within_len : ∀ {d : List Fact} {c : List Int}, within d c = true → c.length = d.length
  | [], [], _ => rfl
  | f :: d, x :: c, h => by rw [List.length_cons, List.length_cons, within_len (within_cons.1 h).2]
  | [], _ :: _, h => by cases h
  | _ :: _, [], h => by cases h
theorem within_get : ∀ {d : List Fact} {c : List Int}, within d c = true ↔ c.length = d.length ∧ ∀ (i : Nat) (f : Fact) (x : Int), d[i]? = some f → c[i]? = some x → f.lo ≤ x ∧ x ≤ f.hi
  | [], [] => by simp [within]
  | [], _ :: _ => by simp [within]
  | _ :: _, [] => by simp [within]
  | f :: d, x :: c => by
    rw [within_cons, within_get (d := d) (c := c)]
    constructor
    · rintro ⟨h1, h2, h3⟩
      refine ⟨by simp [h2], fun i g y hg hy => ?_⟩
      cases i with
      | zero =>
        have e1 : f = g := by simpa using hg
        have e2 : x = y := by simpa using hy
        subst e1 e2; exact h1
      | succ i => exact h3 i g y (by simpa using hg) (by simpa using hy)
    · rintro ⟨h1, h2⟩
      exact ⟨h2 0 f x rfl rfl, by simpa using h1, fun i g y hg hy => h2 (i + 1) g y (by simpa using hg) (by simpa using hy)⟩
theorem least_within : ∀ {d : List Fact}, (∀ f ∈ d, f.lo ≤ f.hi) → within d (least d) = true
  | [], _ => rfl
  | f :: d, h => by
    rw [least, List.map_cons, within_cons]
    exact ⟨⟨Int.le_refl _, h f (by simp)⟩, least_within (d := d) (fun g hg => h g (by simp [hg]))⟩
theorem not_less_least : ∀ {d : List Fact} {a : List Int}, within d a = true → less a (least d) = false
  | [], [], _ => rfl
  | [], _ :: _, h => by cases h
  | _ :: _, [], h => by cases h
  | f :: d, x :: a, h => by
    obtain ⟨⟨h1, _⟩, h2⟩ := within_cons.1 h
    rw [least, List.map_cons, less]
    by_cases e : x = f.lo
    · rw [if_pos e]; exact not_less_least h2
    · rw [if_neg e, decide_eq_false_iff_not]; omega
theorem next_none : ∀ {d : List Fact} {c : List Int}, within d c = true → (next d c = none ↔ last d c = true)
  | [], [], _ => by simp [next, last]
  | [], _ :: _, h => by cases h
  | _ :: _, [], h => by cases h
  | f :: d, x :: c, h => by
    obtain ⟨⟨_, h1⟩, h2⟩ := within_cons.1 h
    have ih := next_none h2
    rw [next, last]
    cases hn : next d c with
    | some n =>
      rw [hn] at ih
      have : last d c = false := by
        cases hl : last d c with
        | false => rfl
        | true => exact absurd (ih.2 hl) (by simp)
      simp [this]
    | none =>
      have : last d c = true := ih.1 hn
      simp only [this, Bool.and_true, decide_eq_true_eq]
      by_cases e : x < f.hi
      · rw [if_pos e]; constructor
        · intro h; cases h
        · intro h; omega
      · rw [if_neg e]; constructor
        · intro _; omega
        · intro _; rfl
theorem next_some : ∀ {d : List Fact} {c n : List Int}, (∀ f ∈ d, f.lo ≤ f.hi) → within d c = true → next d c = some n → within d n = true ∧ less c n = true
  | [], [], _, _, _, h => by cases h
  | [], _ :: _, _, _, h, _ => by cases h
  | _ :: _, [], _, _, h, _ => by cases h
  | f :: d, x :: c, n, hv, h, hn => by
    obtain ⟨⟨h0, h1⟩, h2⟩ := within_cons.1 h
    have hv2 : ∀ g ∈ d, g.lo ≤ g.hi := fun g hg => hv g (by simp [hg])
    rw [next] at hn
    cases hd : next d c with
    | some m =>
      rw [hd] at hn
      have e : x :: m = n := Option.some.inj hn
      subst e
      obtain ⟨i1, i2⟩ := next_some hv2 h2 hd
      exact ⟨within_cons.2 ⟨⟨h0, h1⟩, i1⟩, by rw [less, if_pos rfl]; exact i2⟩
    | none =>
      rw [hd] at hn
      dsimp only at hn
      by_cases e : x < f.hi
      · rw [if_pos e] at hn
        have e2 : (x + 1) :: least d = n := Option.some.inj hn
        subst e2
        exact ⟨within_cons.2 ⟨⟨by omega, by omega⟩, least_within hv2⟩, by rw [less, if_neg (by omega), decide_eq_true_iff]; omega⟩
      · rw [if_neg e] at hn; cases hn
/-- Of two cases within the bounds, of which the first one is less, the next of the first is not greater than the second. -/
theorem next_least : ∀ {d : List Fact} {a b : List Int}, within d a = true → within d b = true → less a b = true → ∃ n, next d a = some n ∧ less b n = false
  | [], [], _, _, _, h => by cases h
  | [], _ :: _, _, h, _, _ => by cases h
  | _ :: _, [], _, h, _, _ => by cases h
  | _ :: _, _ :: _, [], _, h, _ => by cases h
  | f :: d, x :: a, y :: b, ha, hb, hl => by
    obtain ⟨⟨a0, a1⟩, a2⟩ := within_cons.1 ha
    obtain ⟨⟨b0, b1⟩, b2⟩ := within_cons.1 hb
    rw [less] at hl
    by_cases e : x = y
    · rw [if_pos e] at hl
      obtain ⟨n, h1, h2⟩ := next_least a2 b2 hl
      exact ⟨x :: n, by rw [next, h1], by rw [less, if_pos e.symm]; exact h2⟩
    · rw [if_neg e, decide_eq_true_iff] at hl
      cases hd : next d a with
      | some n =>
        exact ⟨x :: n, by rw [next, hd], by rw [less, if_neg (by omega), decide_eq_false_iff_not]; omega⟩
      | none =>
        refine ⟨(x + 1) :: least d, by rw [next, hd]; exact if_pos (by omega), ?_⟩
        rw [less]
        by_cases e2 : y = x + 1
        · rw [if_pos e2]; exact not_less_least b2
        · rw [if_neg e2, decide_eq_false_iff_not]; omega
/-- How the next case is found from the right. -/
theorem next_at : ∀ {d1 : List Fact} {c1 : List Int} {f : Fact} {d2 : List Fact} {x : Int} {c2 : List Int}, d1.length = c1.length → within d2 c2 = true → last d2 c2 = true → x < f.hi →
    next (d1 ++ f :: d2) (c1 ++ x :: c2) = some (c1 ++ (x + 1) :: least d2)
  | [], [], f, d2, x, c2, _, hw, hl, hx => by
    rw [List.nil_append, List.nil_append, List.nil_append, next, (next_none hw).2 hl]
    exact if_pos hx
  | [], _ :: _, _, _, _, _, h, _, _, _ => by cases h
  | _ :: _, [], _, _, _, _, h, _, _, _ => by cases h
  | g :: d1, y :: c1, f, d2, x, c2, h, hw, hl, hx => by
    rw [List.cons_append, List.cons_append, next, next_at (by simpa using h) hw hl hx]
    rfl
theorem last_cons {f : Fact} {d : List Fact} {x : Int} {c : List Int} : last (f :: d) (x :: c) = (decide (x = f.hi) && last d c) := rfl
theorem last_drop {d : List Fact} {c : List Int} (i : Nat) (f : Fact) (x : Int) (hf : d[i]? = some f) (hx : c[i]? = some x) : last (d.drop i) (c.drop i) = (decide (x = f.hi) && last (d.drop (i + 1)) (c.drop (i + 1))) := by
  obtain ⟨h1, e1⟩ := List.getElem?_eq_some_iff.1 hf
  obtain ⟨h2, e2⟩ := List.getElem?_eq_some_iff.1 hx
  rw [List.drop_eq_getElem_cons h1, List.drop_eq_getElem_cons h2, e1, e2, last_cons]
theorem within_drop {d : List Fact} {c : List Int} (hw : within d c = true) (i : Nat) : within (d.drop i) (c.drop i) = true := by
  obtain ⟨h1, h2⟩ := within_get.1 hw
  refine within_get.2 ⟨by rw [List.length_drop, List.length_drop, h1], fun j f x hf hx => ?_⟩
  rw [List.getElem?_drop] at hf hx
  exact h2 _ f x hf hx
end Go.Proofs.YtoamkanofhhjfaaGreatDoor.Fc
/-
  The canonical texts of domains and cases, and their tokens (P6.2, P6.3).
-/
namespace Go.Proofs.YtoamkanofhhjfaaGreatDoor.Fc
open Lx

/-- What a fact of a valid domain is, but for the other names. -/
structure Ok (f : Fact) : Prop where
  name : Good 1 f.name 0
  low : 0 ≤ f.lo
  le : f.lo ≤ f.hi
  high : f.hi ≤ 1000000
  kind : f.kind = 1 ∨ f.kind = 2 ∨ f.kind = 3
  flag : f.kind = 1 → f.lo = 0 ∧ f.hi = 1

def wFlag : T := [102, 108, 97, 103]
def wNumber : T := [110, 117, 109, 98, 101, 114]
def wDay : T := [100, 97, 121]
def wTo : T := [116, 111]
theorem good_flag : Good 1 wFlag 0 := .inl ⟨rfl, rfl, 102, [108, 97, 103], rfl, rfl, rfl, by decide⟩
theorem good_number : Good 1 wNumber 0 := .inl ⟨rfl, rfl, 110, [117, 109, 98, 101, 114], rfl, rfl, rfl, by decide⟩
theorem good_day : Good 1 wDay 0 := .inl ⟨rfl, rfl, 100, [97, 121], rfl, rfl, rfl, by decide⟩
theorem good_to : Good 1 wTo 0 := .inl ⟨rfl, rfl, 116, [111], rfl, rfl, rfl, by decide⟩
theorem good_sym {c : UInt8} (h : isOne c = true) : Good 3 [c] 0 := .inr (.inr ⟨rfl, rfl, .inr ⟨c, rfl, h⟩⟩)

/-- The words of a fact, behind a gap. -/
def fwords (p : T) (f : Fact) : List Word :=
  if f.kind = 1 then [(p, 1, f.name, 0), ([32], 1, wFlag, 0), ([], 3, [59], 0)]
  else [(p, 1, f.name, 0), ([32], 1, if f.kind = 2 then wNumber else wDay, 0), ([32], 2, dec f.lo.toNat, f.lo.toNat), ([32], 1, wTo, 0), ([32], 2, dec f.hi.toNat, f.hi.toNat), ([], 3, [59], 0)]
def dwords : T → List Fact → List Word
  | _, [] => []
  | p, f :: d => fwords p f ++ dwords [10] d
/-- The canonical text of a fact, and of a domain. -/
def ftext (f : Fact) : T :=
  if f.kind = 1 then f.name ++ (32 :: wFlag ++ [59, 10])
  else f.name ++ (32 :: (if f.kind = 2 then wNumber else wDay) ++ (32 :: dec f.lo.toNat ++ (32 :: wTo ++ (32 :: dec f.hi.toNat ++ [59, 10]))))
def dtext : List Fact → T
  | [] => []
  | f :: d => ftext f ++ dtext d
theorem spell_fact (p q : T) (f : Fact) : spell (10 :: q) (fwords p f) = p ++ (ftext f ++ q) := by
  unfold fwords ftext
  by_cases h : f.kind = 1
  · rw [if_pos h, if_pos h]; simp [spell]
  · rw [if_neg h, if_neg h]; simp [spell]
theorem spell_more : ∀ d : List Fact, spell [10] (dwords [10] d) = 10 :: dtext d
  | [] => rfl
  | f :: d => by rw [dwords, spell_app, spell_more d, spell_fact, dtext]; rfl
theorem spell_dom (f : Fact) (d : List Fact) : spell [10] (dwords [] (f :: d)) = dtext (f :: d) := by
  rw [dwords, spell_app, spell_more d, spell_fact, dtext]; rfl
theorem gaps_nl : gaps [10] := by rfl
theorem spells_fact {p : T} (hp : Gap p) {f : Fact} (h : Ok f) {q x : T} {ws : List Word} (hx : spell q ws = 10 :: x) (hw : Spells q ws) : Spells q (fwords p f ++ ws) := by
  have g32 : Gap [32] := gap_blank rfl
  have hb : ∀ {k : Nat} {t : T} {n : Nat} (y : T), Good k t n → stop t ([32] ++ y) = true := fun y hg => stop_blank hg rfl y
  have hs : ∀ {k : Nat} {t : T} {n : Nat} (y : T), Good k t n → k ≠ 3 → stop t ([] ++ ([59] ++ y)) = true := fun y hg hk => stop_symbol hg hk rfl y
  have he : stop [59] (spell q ws) = true := by rw [hx]; exact stop_blank (good_sym (c := 59) rfl) rfl x
  have hlo : f.lo.toNat < 10000000 := by have := h.low; have := h.le; have := h.high; omega
  have hhi : f.hi.toNat < 10000000 := by have := h.high; omega
  unfold fwords
  by_cases hk : f.kind = 1
  · rw [if_pos hk]
    exact ⟨hp, h.name, hb _ h.name, g32, good_flag, hs _ good_flag (by decide), gap_nil, good_sym rfl, he, hw⟩
  · rw [if_neg hk]
    have hkk : Good 1 (if f.kind = 2 then wNumber else wDay) 0 := by
      by_cases h2 : f.kind = 2
      · rw [if_pos h2]; exact good_number
      · rw [if_neg h2]; exact good_day
    exact ⟨hp, h.name, hb _ h.name, g32, hkk, hb _ hkk, g32, good_dec hlo, hb _ (good_dec hlo), g32, good_to, hb _ good_to, g32, good_dec hhi, hs _ (good_dec hhi) (by decide), gap_nil, good_sym rfl, he, hw⟩
theorem spells_more : ∀ {d : List Fact}, (∀ f ∈ d, Ok f) → Spells [10] (dwords [10] d)
  | [], _ => gaps_nl
  | f :: d, h => spells_fact (gap_blank rfl) (h f (by simp)) (spell_more d) (spells_more (d := d) (fun g hg => h g (by simp [hg])))
/-- The tokens of the canonical text of a domain. -/
theorem lex_dom {d : List Fact} (h : ∀ f ∈ d, Ok f) (a : Nat) : lex (dtext d) a = (spelt (dwords [] d) a, none) := by
  cases d with
  | nil => exact lex_done (by rfl) a
  | cons f d =>
    rw [← spell_dom]
    exact lex_spell (q := [10]) (spells_fact gap_nil (h f (by simp)) (spell_more d) (spells_more (fun g hg => h g (by simp [hg])))) a

/-- The words of a value, behind a gap, and of a case. -/
def vwords (p : T) (f : Fact) (x : Int) : List Word := [(p, 1, f.name, 0), ([32], 3, [61], 0), ([32], 2, dec x.toNat, x.toNat)]
def rwords : List Fact → List Int → List Word
  | f :: d, x :: c => ([], 3, [44], 0) :: (vwords [32] f x ++ rwords d c)
  | _, _ => []
def cwords : List Fact → List Int → List Word
  | f :: d, x :: c => vwords [] f x ++ rwords d c
  | _, _ => []
/-- The canonical text of a case. -/
def vtext (f : Fact) (x : Int) : T := f.name ++ (32 :: 61 :: 32 :: dec x.toNat)
def rtext : List Fact → List Int → T
  | f :: d, x :: c => 44 :: 32 :: (vtext f x ++ rtext d c)
  | _, _ => []
def ctext : List Fact → List Int → T
  | f :: d, x :: c => vtext f x ++ rtext d c
  | _, _ => []
theorem spell_rest : ∀ (d : List Fact) (c : List Int), spell [] (rwords d c) = rtext d c
  | [], _ => by simp [rwords, rtext, spell]
  | _ :: _, [] => rfl
  | f :: d, x :: c => by
    rw [rwords, spell, spell_app, spell_rest d c, rtext]
    simp [vwords, spell, vtext]
theorem spell_case : ∀ (d : List Fact) (c : List Int), spell [] (cwords d c) = ctext d c
  | [], _ => by simp [cwords, ctext, spell]
  | _ :: _, [] => rfl
  | f :: d, x :: c => by
    rw [cwords, spell_app, spell_rest d c, ctext]
    simp [vwords, spell, vtext]
theorem rest_head (d : List Fact) (c : List Int) : rtext d c = [] ∨ ∃ y, rtext d c = 44 :: y := by
  cases d with
  | nil => exact .inl (by simp [rtext])
  | cons f d =>
    cases c with
    | nil => exact .inl rfl
    | cons x c => exact .inr ⟨_, rfl⟩
theorem spells_value {p : T} (hp : Gap p) {f : Fact} (h : Good 1 f.name 0) {x : Int} (hx : x ≤ 1000000) {ws : List Word} (hw : Spells [] ws) (he : spell [] ws = [] ∨ ∃ y, spell [] ws = 44 :: y) : Spells [] (vwords p f x ++ ws) := by
  have g32 : Gap [32] := gap_blank rfl
  have hb : ∀ {k : Nat} {t : T} {n : Nat} (y : T), Good k t n → stop t ([32] ++ y) = true := fun y hg => stop_blank hg rfl y
  have hd : Good 2 (dec x.toNat) x.toNat := good_dec (by omega)
  refine ⟨hp, h, hb _ h, g32, good_sym rfl, hb _ (good_sym rfl), g32, hd, ?_, hw⟩
  rcases he with e | ⟨y, e⟩
  · show stop _ (spell [] ws) = true
    rw [e]; exact stop_nil _
  · show stop _ (spell [] ws) = true
    rw [e]; exact stop_symbol hd (by decide) rfl y
theorem spells_rest : ∀ {d : List Fact} {c : List Int}, (∀ f ∈ d, Good 1 f.name 0) → (∀ x ∈ c, x ≤ 1000000) → Spells [] (rwords d c)
  | [], _, _, _ => by simp only [rwords]; exact rfl
  | _ :: _, [], _, _ => rfl
  | f :: d, x :: c, h, hx => by
    have ih := spells_rest (d := d) (c := c) (fun g hg => h g (by simp [hg])) (fun y hy => hx y (by simp [hy]))
    have hr : spell [] (rwords d c) = [] ∨ ∃ y, spell [] (rwords d c) = 44 :: y := by rw [spell_rest]; exact rest_head d c
    exact ⟨gap_nil, good_sym rfl, stop_blank (good_sym (c := 44) rfl) rfl _, spells_value (gap_blank rfl) (h f (by simp)) (hx x (by simp)) ih hr⟩
/-- The tokens of the canonical text of a case. -/
theorem lex_case {d : List Fact} {c : List Int} (h : ∀ f ∈ d, Good 1 f.name 0) (hx : ∀ x ∈ c, x ≤ 1000000) (a : Nat) : lex (ctext d c) a = (spelt (cwords d c) a, none) := by
  rw [← spell_case]
  refine lex_spell ?_ a
  cases d with
  | nil => simp only [cwords]; exact rfl
  | cons f d =>
    cases c with
    | nil => exact rfl
    | cons x c =>
      exact spells_value gap_nil (h f (by simp)) (hx x (by simp)) (spells_rest (fun g hg => h g (by simp [hg])) (fun y hy => hx y (by simp [hy]))) (by rw [spell_rest]; exact rest_head d c)
end Go.Proofs.YtoamkanofhhjfaaGreatDoor.Fc
/-
  Reading a domain from tokens, in arithmetic (F3, P6.2).
-/
namespace Go.Proofs.YtoamkanofhhjfaaGreatDoor.Fc
open Lx

/-- Whether the next token has a kind and a text. -/
def sees (k : Nat) (x : T) : List Tok → Bool
  | [] => false
  | t :: _ => t.kind == k && (x == [] || t.text == x)
/-- The next token, which is to have a kind and a text; e is where the text ends. -/
def want (k : Nat) (x : T) (e : Nat) : List Tok → Except (Nat × Nat) (Tok × List Tok)
  | [] => .error (6, e)
  | t :: r => if sees k x (t :: r) then .ok (t, r) else .error (5, t.at_)
def kindOf (e : Nat) (l : List Tok) : Except (Nat × Nat) (Int × List Tok) :=
  if sees 1 wDay l then .ok (3, l.drop 1) else (want 1 wNumber e l).bind fun x => .ok (2, x.2)
def range (e : Nat) (name : T) (k : Int) (l : List Tok) : Except (Nat × Nat) (Fact × List Tok) :=
  (want 2 [] e l).bind fun lo =>
  if 1000000 < lo.1.n then .error (10, lo.1.at_) else
  (want 1 wTo e lo.2).bind fun to =>
  (want 2 [] e to.2).bind fun hi =>
  if 1000000 < hi.1.n ∨ hi.1.n < lo.1.n then .error (10, hi.1.at_) else
  (want 3 [59] e hi.2).bind fun z => .ok (⟨name, k, lo.1.n, hi.1.n⟩, z.2)
/-- One fact. -/
def fact1 (e : Nat) (d : List Fact) (l : List Tok) : Except (Nat × Nat) (Fact × List Tok) :=
  (want 1 [] e l).bind fun n =>
  if n.1.text ∈ d.map (·.name) then .error (9, n.1.at_)
  else if d.length = 60 then .error (2, n.1.at_)
  else if sees 1 wFlag n.2 then (want 3 [59] e (n.2.drop 1)).bind fun z => .ok (⟨n.1.text, 1, 0, 1⟩, z.2)
  else (kindOf e n.2).bind fun k => range e n.1.text k.1 k.2
def parseF (e : Nat) : Nat → List Fact → List Tok → Except (Nat × Nat) (List Fact)
  | 0, d, _ => .ok d
  | m + 1, d, l => match l with
    | [] => .ok d
    | t :: r => (fact1 e d (t :: r)).bind fun f => parseF e m (d ++ [f.1]) f.2
/-- The facts that tokens make, or the first error with its offset. -/
def parse (e : Nat) (l : List Tok) : Except (Nat × Nat) (List Fact) := parseF e l.length [] l

theorem want_ok {k : Nat} {x : T} {e : Nat} {l : List Tok} {y : Tok × List Tok} (h : want k x e l = .ok y) : l = y.1 :: y.2 ∧ y.1.kind = k ∧ (x = [] ∨ y.1.text = x) := by
  cases l with
  | nil => cases h
  | cons t r =>
    have h : (if sees k x (t :: r) = true then Except.ok (t, r) else Except.error (5, t.at_)) = Except.ok y := h
    by_cases hs : sees k x (t :: r) = true
    · rw [if_pos hs] at h
      have e : (t, r) = y := Except.ok.inj h
      subst e
      unfold sees at hs
      simp only [Bool.and_eq_true, Bool.or_eq_true, beq_iff_eq] at hs
      exact ⟨rfl, hs.1, hs.2⟩
    · rw [if_neg hs] at h; cases h
theorem bind_ok {ε α β : Type} {x : Except ε α} {f : α → Except ε β} {b : β} (h : x.bind f = .ok b) : ∃ a, x = .ok a ∧ f a = .ok b := by
  cases x with
  | error e => cases h
  | ok a => exact ⟨a, rfl, h⟩
theorem good_two {k : Nat} {t : T} {n : Nat} (h : Good k t n) : k = 2 → n = value t := by
  rintro rfl
  rcases h with ⟨h, _⟩ | ⟨_, h, _⟩ | ⟨h, _⟩
  · cases h
  · exact h
  · cases h
theorem good_one {k : Nat} {t : T} {n : Nat} (h : Good k t n) (hk : k = 1) : Good 1 t 0 := by
  subst hk
  rcases h with h | ⟨h, _⟩ | ⟨h, _⟩
  · exact .inl ⟨rfl, rfl, h.2.2⟩
  · cases h
  · cases h
/-- What a fact that was read is: it is well-formed, and new. -/
theorem fact1_ok {e : Nat} {d : List Fact} {l : List Tok} {f : Fact} {r : List Tok} (hg : ∀ t ∈ l, Good t.kind t.text t.n) (h : fact1 e d l = .ok (f, r)) :
    Ok f ∧ f.name ∉ d.map (·.name) ∧ d.length ≠ 60 ∧ (∃ u, l = u ++ r ∧ u ≠ []) := by
  unfold fact1 at h
  obtain ⟨⟨n, l1⟩, h1, h'⟩ := bind_ok h
  clear h
  rename _ = _ => h
  obtain ⟨e1, k1, _⟩ := want_ok h1
  subst e1
  have gn : Good 1 n.text 0 := good_one (hg n (by simp)) k1
  dsimp only at h
  by_cases c1 : n.text ∈ d.map (·.name)
  · rw [if_pos c1] at h; cases h
  rw [if_neg c1] at h
  by_cases c2 : d.length = 60
  · rw [if_pos c2] at h; cases h
  rw [if_neg c2] at h
  by_cases c3 : sees 1 wFlag l1 = true
  · rw [if_pos c3] at h
    obtain ⟨⟨z, l2⟩, h2, h⟩ := bind_ok h
    obtain ⟨e2, _, _⟩ := want_ok h2
    have e3 : (⟨n.text, 1, 0, 1⟩, l2) = (f, r) := Except.ok.inj h
    obtain ⟨rfl, rfl⟩ := Prod.mk.inj e3
    refine ⟨⟨gn, (by decide : (0 : Int) ≤ 0), (by decide : (0 : Int) ≤ 1), (by decide : (1 : Int) ≤ 1000000), .inl rfl, fun _ => ⟨rfl, rfl⟩⟩, c1, c2, ?_⟩
    cases l1 with
    | nil => cases c3
    | cons t l1 =>
      have e2 : l1 = z :: l2 := e2
      exact ⟨[n, t, z], by rw [e2]; rfl, by simp⟩
  · rw [if_neg c3] at h
    obtain ⟨⟨k, l2⟩, h2, g2⟩ := bind_ok h
    clear h
    have hk : (k = 2 ∨ k = 3) ∧ ∃ t, l1 = t :: l2 := by
      unfold kindOf at h2
      by_cases c4 : sees 1 wDay l1 = true
      · rw [if_pos c4] at h2
        obtain ⟨rfl, e5⟩ := Prod.mk.inj (Except.ok.inj h2)
        cases l1 with
        | nil => cases c4
        | cons t l1 => exact ⟨.inr rfl, t, by rw [← e5]; rfl⟩
      · rw [if_neg c4] at h2
        obtain ⟨⟨t, l4⟩, h3, h2⟩ := bind_ok h2
        obtain ⟨e5, _, _⟩ := want_ok h3
        obtain ⟨rfl, rfl⟩ := Prod.mk.inj (Except.ok.inj h2)
        exact ⟨.inl rfl, t, e5⟩
    obtain ⟨hk, t, rfl⟩ := hk
    unfold range at g2
    obtain ⟨⟨lo, l3⟩, h3, g2⟩ := bind_ok g2
    obtain ⟨e3, _, _⟩ := want_ok h3
    simp only at g2 e3
    by_cases c5 : 1000000 < lo.n
    · rw [if_pos c5] at g2; cases g2
    rw [if_neg c5] at g2
    obtain ⟨⟨to, l4⟩, h4, g2⟩ := bind_ok g2
    obtain ⟨e4, _, _⟩ := want_ok h4
    simp only at g2 e4
    obtain ⟨⟨hi, l5⟩, h5, g2⟩ := bind_ok g2
    obtain ⟨e5, _, _⟩ := want_ok h5
    simp only at g2 e5
    by_cases c6 : 1000000 < hi.n ∨ hi.n < lo.n
    · rw [if_pos c6] at g2; cases g2
    rw [if_neg c6] at g2
    obtain ⟨⟨z, l6⟩, h6, g2⟩ := bind_ok g2
    obtain ⟨e6, _, _⟩ := want_ok h6
    simp only at e6
    obtain ⟨rfl, rfl⟩ := Prod.mk.inj (Except.ok.inj g2)
    refine ⟨⟨gn, Int.natCast_nonneg _, by show (lo.n : Int) ≤ hi.n; omega, by show (hi.n : Int) ≤ 1000000; omega, .inr hk, fun h1 => ?_⟩, c1, c2, ?_⟩
    · rcases hk with rfl | rfl <;> cases h1
    · exact ⟨[n, t, lo, to, hi, z], by rw [e3, e4, e5, e6]; rfl, by simp⟩
/-- The facts of a valid domain. -/
def Valid (d : List Fact) : Prop := (∀ f ∈ d, Ok f) ∧ (d.map (·.name)).Nodup ∧ d.length ≤ 60
theorem Valid.snoc {d : List Fact} (h : Valid d) {f : Fact} (hf : Ok f) (hn : f.name ∉ d.map (·.name)) (hl : d.length ≠ 60) : Valid (d ++ [f]) := by
  refine ⟨fun g hg => ?_, ?_, ?_⟩
  · rcases List.mem_append.1 hg with hg | hg
    · exact h.1 g hg
    · rw [List.mem_singleton] at hg; subst hg; exact hf
  · rw [List.map_append, List.nodup_append]
    refine ⟨h.2.1, by simp, fun a ha b hb => ?_⟩
    have hb : b = f.name := by simpa using hb
    subst hb
    intro e; subst e; exact hn ha
  · have := h.2.2; rw [List.length_append, List.length_singleton]; omega
theorem parseF_ok (e : Nat) : ∀ (m : Nat) (d : List Fact) (l : List Tok) (x : List Fact), (∀ t ∈ l, Good t.kind t.text t.n) → Valid d → parseF e m d l = .ok x → Valid x
  | 0, d, l, x, _, hd, h => by
    have e : d = x := Except.ok.inj h
    subst e; exact hd
  | m + 1, d, [], x, _, hd, h => by
    have e : d = x := Except.ok.inj h
    subst e; exact hd
  | m + 1, d, t :: r, x, hg, hd, h => by
    rw [parseF] at h
    obtain ⟨⟨f, r2⟩, h1, h2⟩ := bind_ok h
    obtain ⟨i1, i2, i3, u, i4, _⟩ := fact1_ok hg h1
    exact parseF_ok e m _ r2 x (fun t2 ht => hg t2 (by rw [i4]; exact List.mem_append_right _ ht)) (hd.snoc i1 i2 i3) h2
/-- What is read from tokens of a text is valid. -/
theorem parse_ok {e : Nat} {l : List Tok} {x : List Fact} (hg : ∀ t ∈ l, Good t.kind t.text t.n) (h : parse e l = .ok x) : Valid x :=
  parseF_ok e _ _ _ _ hg ⟨by simp, by simp, by simp⟩ h
/-! ### The canonical text is read -/
theorem want_yes {k : Nat} {x : T} {e : Nat} {t : Tok} {r : List Tok} (hk : t.kind = k) (hx : x = [] ∨ t.text = x) : want k x e (t :: r) = .ok (t, r) := by
  have : sees k x (t :: r) = true := by
    unfold sees
    simp only [Bool.and_eq_true, Bool.or_eq_true, beq_iff_eq]
    exact ⟨hk, hx⟩
  exact if_pos this
theorem sees_no {k : Nat} {x : T} {t : Tok} {r : List Tok} (h1 : x ≠ []) (h2 : t.text ≠ x) : sees k x (t :: r) = false := by
  show (t.kind == k && (x == [] || t.text == x)) = false
  rw [show (x == []) = false by rw [beq_eq_false_iff_ne]; exact h1, show (t.text == x) = false by rw [beq_eq_false_iff_ne]; exact h2]
  simp
theorem sees_yes {k : Nat} {x : T} {t : Tok} {r : List Tok} (h1 : t.kind = k) (h2 : t.text = x) : sees k x (t :: r) = true := by
  unfold sees
  simp only [Bool.and_eq_true, Bool.or_eq_true, beq_iff_eq]
  exact ⟨h1, .inr h2⟩
theorem want_is {k : Nat} {x : T} {e : Nat} {u : T} {n o : Nat} {r : List Tok} (hx : x = [] ∨ u = x) : want k x e (⟨k, u, n, o⟩ :: r) = .ok (⟨k, u, n, o⟩, r) := want_yes rfl hx
theorem sees_is {k : Nat} {u : T} {n o : Nat} {r : List Tok} : sees k u (⟨k, u, n, o⟩ :: r) = true := sees_yes rfl rfl
theorem bind_is {ε α β : Type} {x : Except ε α} {a : α} (h : x = .ok a) (f : α → Except ε β) : x.bind f = f a := by rw [h]; rfl
theorem fact1_words {d : List Fact} {f : Fact} (hf : Ok f) (hn : f.name ∉ d.map (·.name)) (hl : d.length ≠ 60) (e : Nat) (p : T) (ws : List Word) (a : Nat) :
    ∃ b, fact1 e d (spelt (fwords p f ++ ws) a) = .ok (f, spelt ws b) := by
  obtain ⟨nm, k, lo, hi⟩ := f
  unfold fwords
  by_cases hk : k = 1
  · obtain ⟨e1, e2⟩ := hf.flag hk
    have e1 : lo = 0 := e1
    have e2 : hi = 1 := e2
    subst hk e1 e2
    rw [if_pos rfl]
    simp only [List.cons_append, List.nil_append, spelt]
    unfold fact1
    rw [bind_is (want_is (.inl rfl))]
    dsimp only
    rw [if_neg hn, if_neg hl, if_pos sees_is, List.drop_succ_cons, List.drop_zero, bind_is (want_is (.inr rfl))]
    exact ⟨_, rfl⟩
  · have hlow : 0 ≤ lo := hf.low
    have hle : lo ≤ hi := hf.le
    have hhi : hi ≤ 1000000 := hf.high
    rw [if_neg hk]
    simp only [List.cons_append, List.nil_append, spelt]
    unfold fact1
    rw [bind_is (want_is (.inl rfl))]
    dsimp only
    have h2 : (if k = 2 then wNumber else wDay) ≠ wFlag := by
      by_cases h : k = 2
      · rw [if_pos h]; decide
      · rw [if_neg h]; decide
    rw [if_neg hn, if_neg hl, if_neg (by rw [sees_no (by decide) h2]; decide)]
    have hkind : ∀ (o : Nat) (r : List Tok), kindOf e (⟨1, if k = 2 then wNumber else wDay, 0, o⟩ :: r) = .ok (k, r) := by
      intro o r
      unfold kindOf
      by_cases h : k = 2
      · subst h
        rw [if_pos rfl, if_neg (by rw [sees_no (by decide) (by show wNumber ≠ wDay; decide)]; decide), bind_is (want_is (.inr rfl))]
      · have h3 : k = 3 := by
          rcases hf.kind with h1 | h1 | h1
          · exact absurd h1 hk
          · exact absurd h1 h
          · exact h1
        subst h3
        show (if sees 1 wDay (⟨1, wDay, 0, o⟩ :: r) = true then (Except.ok (3, List.drop 1 (⟨1, wDay, 0, o⟩ :: r)) : Except (Nat × Nat) (Int × List Tok)) else _) = _
        rw [if_pos sees_is]
        rfl
    rw [bind_is (hkind _ _)]
    unfold range
    rw [bind_is (want_is (.inl rfl))]
    dsimp only
    rw [if_neg (by omega), bind_is (want_is (.inr rfl))]
    dsimp only
    rw [bind_is (want_is (.inl rfl))]
    dsimp only
    rw [if_neg (by omega), bind_is (want_is (.inr rfl)), Int.toNat_of_nonneg hlow, Int.toNat_of_nonneg (Int.le_trans hlow hle)]
    exact ⟨_, rfl⟩
theorem parseF_words (e : Nat) : ∀ (m : Nat) (d x : List Fact) (p : T) (a : Nat), x.length ≤ m → Valid (d ++ x) → parseF e m d (spelt (dwords p x) a) = .ok (d ++ x)
  | 0, d, x, p, a, hm, _ => by
    have : x = [] := List.length_eq_zero_iff.1 (by omega)
    subst this
    rw [List.append_nil]; rfl
  | m + 1, d, [], p, a, _, _ => by rw [List.append_nil]; rfl
  | m + 1, d, f :: x, p, a, hm, hv => by
    have hn : f.name ∉ d.map (·.name) := by
      have := hv.2.1
      rw [List.map_append, List.nodup_append] at this
      intro hin
      exact this.2.2 _ hin _ (by rw [List.map_cons]; exact List.mem_cons_self) rfl
    have hl : d.length ≠ 60 := by have := hv.2.2; rw [List.length_append, List.length_cons] at this; omega
    obtain ⟨b, hb⟩ := fact1_words (hv.1 f (by simp)) hn hl e p (dwords [10] x) a
    have ih := parseF_words e m (d ++ [f]) x [10] b (by rw [List.length_cons] at hm; omega) (by rw [List.append_assoc]; exact hv)
    rw [List.append_assoc] at ih
    rw [dwords]
    cases hsp : spelt (fwords p f ++ dwords [10] x) a with
    | nil => rw [hsp] at hb; cases hb
    | cons t r =>
      rw [hsp] at hb
      rw [parseF, bind_is hb]
      exact ih
theorem dwords_len : ∀ (d : List Fact) (p : T), d.length ≤ (dwords p d).length
  | [], _ => Nat.zero_le _
  | f :: d, p => by
    have := dwords_len d [10]
    rw [dwords, List.length_append, List.length_cons]
    have : 1 ≤ (fwords p f).length := by
      unfold fwords
      by_cases h : f.kind = 1
      · rw [if_pos h]; simp
      · rw [if_neg h]; simp
    omega
/-- The canonical text of a valid domain makes this domain. -/
theorem parse_text {d : List Fact} (h : Valid d) (e a : Nat) : parse e (lex (dtext d) a).1 = .ok d := by
  rw [lex_dom h.1, parse]
  have := parseF_words e (spelt (dwords [] d) a).length [] d [] a (by rw [spelt_len]; exact dwords_len d []) h
  rwa [List.nil_append] at this
/-- Different valid domains have different canonical texts. -/
theorem text_inj {c d : List Fact} (hc : Valid c) (hd : Valid d) (h : dtext c = dtext d) : c = d := by
  have h1 := parse_text hc 0 0
  rw [h, parse_text hd 0 0] at h1
  exact (Except.ok.inj h1).symm
end Go.Proofs.YtoamkanofhhjfaaGreatDoor.Fc
/-
  Reading a domain: gaps make no difference, apart from offsets (P6.6).
-/
namespace Go.Proofs.YtoamkanofhhjfaaGreatDoor.Fc
open Lx

/-- The same, or errors of one number. -/
def like {α β : Type} (R : α → β → Prop) : Except (Nat × Nat) α → Except (Nat × Nat) β → Prop
  | .ok a, .ok b => R a b
  | .error x, .error y => x.1 = y.1
  | _, _ => False
theorem like_bind {α β γ δ : Type} {R : α → β → Prop} {S : γ → δ → Prop} {x : Except (Nat × Nat) α} {y : Except (Nat × Nat) β} (h : like R x y) {f : α → Except (Nat × Nat) γ} {g : β → Except (Nat × Nat) δ} (hf : ∀ a b, R a b → like S (f a) (g b)) :
    like S (x.bind f) (y.bind g) := by
  cases x with
  | ok a =>
    cases y with
    | ok b => exact hf a b h
    | error e => exact h.elim
  | error e =>
    cases y with
    | ok b => exact h.elim
    | error e2 => exact h
/-- Tokens that are equal apart from offsets. -/
abbrev Alk (a b : List Tok) : Prop := a.map untag = b.map untag
theorem untag_parts {a b : Tok} (h : untag a = untag b) : a.kind = b.kind ∧ a.text = b.text ∧ a.n = b.n := by
  unfold untag at h
  exact ⟨congrArg (·.1) h, congrArg (·.2.1) h, congrArg (·.2.2) h⟩
theorem alk_drop {a b : List Tok} (h : Alk a b) : Alk (a.drop 1) (b.drop 1) := by
  show (a.drop 1).map untag = (b.drop 1).map untag
  rw [List.map_drop, List.map_drop, h]
theorem sees_alk {a b : List Tok} (h : Alk a b) (k : Nat) (x : T) : sees k x a = sees k x b := by
  cases a with
  | nil =>
    cases b with
    | nil => rfl
    | cons u s => cases h
  | cons t r =>
    cases b with
    | nil => cases h
    | cons u s =>
      have h1 : untag t = untag u := (List.cons.inj h).1
      obtain ⟨e1, e2, _⟩ := untag_parts h1
      show (t.kind == k && (x == [] || t.text == x)) = (u.kind == k && (x == [] || u.text == x))
      rw [e1, e2]
/-- What was taken, and what is left. -/
abbrev Alt (a b : Tok × List Tok) : Prop := untag a.1 = untag b.1 ∧ Alk a.2 b.2
theorem want_alk {a b : List Tok} (h : Alk a b) (k : Nat) (x : T) (e e' : Nat) : like Alt (want k x e a) (want k x e' b) := by
  have hs := sees_alk h k x
  cases a with
  | nil =>
    cases b with
    | nil => exact (rfl : (6 : Nat) = 6)
    | cons u s => cases h
  | cons t r =>
    cases b with
    | nil => cases h
    | cons u s =>
      obtain ⟨h1, h2⟩ := List.cons.inj h
      show like Alt (if sees k x (t :: r) = true then .ok (t, r) else .error (5, t.at_)) (if sees k x (u :: s) = true then .ok (u, s) else .error (5, u.at_))
      rw [hs]
      by_cases c : sees k x (u :: s) = true
      · rw [if_pos c, if_pos c]; exact ⟨h1, h2⟩
      · rw [if_neg c, if_neg c]; exact (rfl : (5 : Nat) = 5)
abbrev Alf {α : Type} (a b : α × List Tok) : Prop := a.1 = b.1 ∧ Alk a.2 b.2
theorem kind_alk {a b : List Tok} (h : Alk a b) (e e' : Nat) : like Alf (kindOf e a) (kindOf e' b) := by
  unfold kindOf
  rw [sees_alk h]
  by_cases c : sees 1 wDay b = true
  · rw [if_pos c, if_pos c]; exact ⟨rfl, alk_drop h⟩
  · rw [if_neg c, if_neg c]
    exact like_bind (want_alk h 1 wNumber e e') fun x y hxy => ⟨rfl, hxy.2⟩
theorem range_alk {a b : List Tok} (h : Alk a b) (e e' : Nat) (name : T) (k : Int) : like Alf (range e name k a) (range e' name k b) := by
  unfold range
  refine like_bind (want_alk h 2 [] e e') fun lo lo' hlo => ?_
  have e1 := (untag_parts hlo.1).2.2
  rw [e1]
  by_cases c : 1000000 < lo'.1.n
  · rw [if_pos c, if_pos c]; exact (rfl : (10 : Nat) = 10)
  rw [if_neg c, if_neg c]
  refine like_bind (want_alk hlo.2 1 wTo e e') fun to to' hto => ?_
  refine like_bind (want_alk hto.2 2 [] e e') fun hi hi' hhi => ?_
  have e2 := (untag_parts hhi.1).2.2
  rw [e2]
  by_cases c2 : 1000000 < hi'.1.n ∨ hi'.1.n < lo'.1.n
  · rw [if_pos c2, if_pos c2]; exact (rfl : (10 : Nat) = 10)
  rw [if_neg c2, if_neg c2]
  exact like_bind (want_alk hhi.2 3 [59] e e') fun z z' hz => ⟨rfl, hz.2⟩
theorem fact1_alk {a b : List Tok} (h : Alk a b) (e e' : Nat) (d : List Fact) : like Alf (fact1 e d a) (fact1 e' d b) := by
  unfold fact1
  refine like_bind (want_alk h 1 [] e e') fun n n' hn => ?_
  have e1 := (untag_parts hn.1).2.1
  rw [e1, sees_alk hn.2]
  by_cases c : n'.1.text ∈ d.map (·.name)
  · rw [if_pos c, if_pos c]; exact (rfl : (9 : Nat) = 9)
  rw [if_neg c, if_neg c]
  by_cases c2 : d.length = 60
  · rw [if_pos c2, if_pos c2]; exact (rfl : (2 : Nat) = 2)
  rw [if_neg c2, if_neg c2]
  by_cases c3 : sees 1 wFlag n'.2 = true
  · rw [if_pos c3, if_pos c3]
    exact like_bind (want_alk (alk_drop hn.2) 3 [59] e e') fun z z' hz => ⟨rfl, hz.2⟩
  · rw [if_neg c3, if_neg c3]
    refine like_bind (kind_alk hn.2 e e') fun k k' hk => ?_
    rw [hk.1]
    exact range_alk hk.2 e e' n'.1.text k'.1
theorem parseF_alk (e e' : Nat) : ∀ (m : Nat) (d : List Fact) (a b : List Tok), Alk a b → like Eq (parseF e m d a) (parseF e' m d b)
  | 0, d, a, b, _ => (rfl : d = d)
  | m + 1, d, [], [], _ => (rfl : d = d)
  | m + 1, d, [], u :: s, h => by cases h
  | m + 1, d, t :: r, [], h => by cases h
  | m + 1, d, t :: r, u :: s, h => by
    rw [parseF, parseF]
    refine like_bind (fact1_alk h e e' d) fun f g hfg => ?_
    rw [hfg.1]
    exact parseF_alk e e' m _ f.2 g.2 hfg.2
/-- Tokens that are equal apart from offsets make the same domain, or the same error. -/
theorem parse_alk {a b : List Tok} (h : Alk a b) (e e' : Nat) : like Eq (parse e a) (parse e' b) := by
  have hl : a.length = b.length := by have := congrArg List.length h; rwa [List.length_map, List.length_map] at this
  unfold parse
  rw [hl]
  exact parseF_alk e e' _ [] a b h
end Go.Proofs.YtoamkanofhhjfaaGreatDoor.Fc
/-
  Reading a case from tokens, in arithmetic (F4; P6.3, P6.4, P6.6).
-/
namespace Go.Proofs.YtoamkanofhhjfaaGreatDoor.Fc
open Lx

/-- The index of the first fact with a name. -/
def index (d : List Fact) (name : T) : Option Nat := d.findIdx? fun f => f.name == name
/-- A comma, but before the first value. -/
def comma (e : Nat) (first : Bool) (l : List Tok) : Except (Nat × Nat) (Unit × List Tok) :=
  if first then .ok ((), l) else (want 3 [44] e l).bind fun z => .ok ((), z.2)
/-- The value of the fact with an index. -/
def valueAt (e : Nat) (d : List Fact) (v : List (Option Int)) (at_ : Nat) (l : List Tok) (i : Nat) : Except (Nat × Nat) (List (Option Int) × List Tok) :=
  if (v.getD i none).isSome then .error (9, at_) else
  (want 3 [61] e l).bind fun q =>
  (want 2 [] e q.2).bind fun x =>
  match d[i]? with
  | none => .error (7, at_)
  | some f => if f.lo ≤ x.1.n ∧ (x.1.n : Int) ≤ f.hi then .ok (v.set i (some (x.1.n : Int)), x.2) else .error (10, x.1.at_)
def value1 (e : Nat) (d : List Fact) (first : Bool) (v : List (Option Int)) (l : List Tok) : Except (Nat × Nat) (List (Option Int) × List Tok) :=
  (comma e first l).bind fun z =>
  (want 1 [] e z.2).bind fun n =>
  match index d n.1.text with
  | none => .error (7, n.1.at_)
  | some i => valueAt e d v n.1.at_ n.2 i
def valuesF (e : Nat) (d : List Fact) : Nat → Bool → List (Option Int) → List Tok → Except (Nat × Nat) (List (Option Int))
  | 0, _, v, _ => .ok v
  | m + 1, first, v, l => match l with
    | [] => .ok v
    | t :: r => (value1 e d first v (t :: r)).bind fun x => valuesF e d m false x.1 x.2
/-- The values that tokens make, or the first error with its offset. -/
def parseCase (e : Nat) (d : List Fact) (l : List Tok) : Except (Nat × Nat) (List Int) :=
  (valuesF e d l.length true (d.map fun _ => none) l).bind fun v =>
  if v.all Option.isSome then .ok (v.map fun o => o.getD 0) else .error (11, e)

/-! ### Gaps -/
theorem value1_alk {a b : List Tok} (h : Alk a b) (e e' : Nat) (d : List Fact) (first : Bool) (v : List (Option Int)) : like Alf (value1 e d first v a) (value1 e' d first v b) := by
  unfold value1
  have hc : like Alf (comma e first a) (comma e' first b) := by
    unfold comma
    cases first with
    | true => exact ⟨rfl, h⟩
    | false => exact like_bind (want_alk h 3 [44] e e') fun z z' hz => ⟨rfl, hz.2⟩
  refine like_bind hc fun z z' hz => ?_
  refine like_bind (want_alk hz.2 1 [] e e') fun n n' hn => ?_
  rw [(untag_parts hn.1).2.1]
  cases index d n'.1.text with
  | none => exact (rfl : (7 : Nat) = 7)
  | some i =>
    show like Alf (valueAt e d v n.1.at_ n.2 i) (valueAt e' d v n'.1.at_ n'.2 i)
    unfold valueAt
    by_cases c : (v.getD i none).isSome = true
    · rw [if_pos c, if_pos c]; exact (rfl : (9 : Nat) = 9)
    rw [if_neg c, if_neg c]
    refine like_bind (want_alk hn.2 3 [61] e e') fun q q' hq => ?_
    refine like_bind (want_alk hq.2 2 [] e e') fun x x' hx => ?_
    rw [(untag_parts hx.1).2.2]
    cases d[i]? with
    | none => exact (rfl : (7 : Nat) = 7)
    | some f =>
      dsimp only
      by_cases c2 : f.lo ≤ (x'.1.n : Int) ∧ (x'.1.n : Int) ≤ f.hi
      · rw [if_pos c2, if_pos c2]; exact ⟨rfl, hx.2⟩
      · rw [if_neg c2, if_neg c2]; exact (rfl : (10 : Nat) = 10)
theorem valuesF_alk (e e' : Nat) (d : List Fact) : ∀ (m : Nat) (first : Bool) (v : List (Option Int)) (a b : List Tok), Alk a b → like Eq (valuesF e d m first v a) (valuesF e' d m first v b)
  | 0, _, v, _, _, _ => (rfl : v = v)
  | m + 1, _, v, [], [], _ => (rfl : v = v)
  | m + 1, _, v, [], u :: s, h => by cases h
  | m + 1, _, v, t :: r, [], h => by cases h
  | m + 1, first, v, t :: r, u :: s, h => by
    rw [valuesF, valuesF]
    refine like_bind (value1_alk h e e' d first v) fun f g hfg => ?_
    rw [hfg.1]
    exact valuesF_alk e e' d m false _ f.2 g.2 hfg.2
theorem case_alk {a b : List Tok} (h : Alk a b) (e e' : Nat) (d : List Fact) : like Eq (parseCase e d a) (parseCase e' d b) := by
  have hl : a.length = b.length := by have := congrArg List.length h; rwa [List.length_map, List.length_map] at this
  unfold parseCase
  rw [hl]
  refine like_bind (valuesF_alk e e' d _ true _ a b h) fun v w hvw => ?_
  subst hvw
  by_cases c : v.all Option.isSome = true
  · rw [if_pos c, if_pos c]; exact (rfl : _ = _)
  · rw [if_neg c, if_neg c]; exact (rfl : (11 : Nat) = 11)

/-! ### What is read fits -/
/-- The values that are there are within the bounds. -/
def Part (d : List Fact) (v : List (Option Int)) : Prop := v.length = d.length ∧ ∀ (i : Nat) (f : Fact) (x : Int), d[i]? = some f → v[i]? = some (some x) → f.lo ≤ x ∧ x ≤ f.hi
theorem Part.set {d : List Fact} {v : List (Option Int)} (h : Part d v) {i : Nat} {f : Fact} {x : Int} (hf : d[i]? = some f) (hx : f.lo ≤ x ∧ x ≤ f.hi) : Part d (v.set i (some x)) := by
  refine ⟨by rw [List.length_set]; exact h.1, fun j g y hg hy => ?_⟩
  by_cases e : i = j
  · subst e
    rw [List.getElem?_set_self (by rw [h.1]; exact (List.getElem?_eq_some_iff.1 hf).1)] at hy
    have hy : x = y := by simpa using hy
    rw [hf] at hg
    have hg : f = g := Option.some.inj hg
    subst hy hg; exact hx
  · rw [List.getElem?_set_ne e] at hy
    exact h.2 j g y hg hy
theorem value1_part {e : Nat} {d : List Fact} {first : Bool} {v : List (Option Int)} {l : List Tok} {y : List (Option Int) × List Tok} (h : Part d v) (hv : value1 e d first v l = .ok y) : Part d y.1 := by
  unfold value1 at hv
  obtain ⟨z, _, hv⟩ := bind_ok hv
  obtain ⟨n, _, hv⟩ := bind_ok hv
  cases hi : index d n.1.text with
  | none => rw [hi] at hv; cases hv
  | some i =>
    rw [hi] at hv
    have hv : valueAt e d v n.1.at_ n.2 i = .ok y := hv
    unfold valueAt at hv
    by_cases c : (v.getD i none).isSome = true
    · rw [if_pos c] at hv; cases hv
    rw [if_neg c] at hv
    obtain ⟨q, _, hv⟩ := bind_ok hv
    obtain ⟨x, _, hv⟩ := bind_ok hv
    cases hd : d[i]? with
    | none => rw [hd] at hv; cases hv
    | some f =>
      rw [hd] at hv
      dsimp only at hv
      by_cases c2 : f.lo ≤ (x.1.n : Int) ∧ (x.1.n : Int) ≤ f.hi
      · rw [if_pos c2] at hv
        have e2 := Except.ok.inj hv
        rw [← e2]
        exact h.set hd c2
      · rw [if_neg c2] at hv; cases hv
theorem valuesF_part {e : Nat} {d : List Fact} : ∀ (m : Nat) (first : Bool) (v : List (Option Int)) (l : List Tok) (y : List (Option Int)), Part d v → valuesF e d m first v l = .ok y → Part d y
  | 0, _, v, l, y, h, hv => by
    have e : v = y := Except.ok.inj hv
    subst e; exact h
  | m + 1, _, v, [], y, h, hv => by
    have e : v = y := Except.ok.inj hv
    subst e; exact h
  | m + 1, first, v, t :: r, y, h, hv => by
    rw [valuesF] at hv
    obtain ⟨x, h1, h2⟩ := bind_ok hv
    exact valuesF_part m false _ _ y (value1_part h h1) h2
/-- What is read is within the bounds. -/
theorem case_within {e : Nat} {d : List Fact} {l : List Tok} {c : List Int} (h : parseCase e d l = .ok c) : within d c = true := by
  unfold parseCase at h
  obtain ⟨v, h1, h⟩ := bind_ok h
  have hp : Part d v := valuesF_part _ _ _ _ v ⟨by simp, fun i f x _ hx => by
    rw [List.getElem?_map] at hx
    cases hd : d[i]? with
    | none => rw [hd] at hx; cases hx
    | some g => rw [hd] at hx; cases hx⟩ h1
  by_cases c1 : v.all Option.isSome = true
  · rw [if_pos c1] at h
    have e2 := Except.ok.inj h
    rw [← e2]
    refine within_get.2 ⟨by rw [List.length_map, hp.1], fun i f x hf hx => ?_⟩
    rw [List.getElem?_map] at hx
    cases hv : v[i]? with
    | none => rw [hv] at hx; cases hx
    | some o =>
      rw [hv] at hx
      have ho : o.isSome = true := List.all_eq_true.1 c1 o (List.mem_of_getElem? hv)
      cases o with
      | none => cases ho
      | some y =>
        have hx : y = x := by simpa using hx
        subst hx
        exact hp.2 i f y hf hv
  · rw [if_neg c1] at h; cases h
end Go.Proofs.YtoamkanofhhjfaaGreatDoor.Fc
/-
  The canonical text of a case, or of its values in another order, makes the case (P6.3, P6.4).
-/
namespace Go.Proofs.YtoamkanofhhjfaaGreatDoor.Fc
open Lx

theorem index_at {d : List Fact} (h : (d.map (·.name)).Nodup) {i : Nat} {f : Fact} (hf : d[i]? = some f) : index d f.name = some i := by
  obtain ⟨hi, e⟩ := List.getElem?_eq_some_iff.1 hf
  unfold index
  rw [List.findIdx?_eq_some_iff_getElem]
  refine ⟨hi, by rw [e]; simp, fun j hj => ?_⟩
  have hji : j < d.length := by omega
  have hne : d[j].name ≠ f.name := by
    intro hc
    have h1 : (d.map (·.name))[j]'(by rw [List.length_map]; exact hji) = (d.map (·.name))[i]'(by rw [List.length_map]; exact hi) := by simp only [List.getElem_map, e]; exact hc
    have := (List.getElem_inj h).1 h1
    omega
  simp only [beq_iff_eq]
  exact hne
/-- What the values of a list of indices leave. -/
def put (c : List Int) (js : List Nat) (v : List (Option Int)) : List (Option Int) := js.foldl (fun v j => v.set j c[j]?) v
theorem put_len (c : List Int) : ∀ (js : List Nat) (v : List (Option Int)), (put c js v).length = v.length
  | [], _ => rfl
  | j :: js, v => by
    show (put c js (v.set j c[j]?)).length = _
    rw [put_len c js, List.length_set]
theorem put_get (c : List Int) : ∀ (js : List Nat) (v : List (Option Int)) (i : Nat), i < v.length → (put c js v)[i]? = if i ∈ js then some c[i]? else v[i]?
  | [], v, i, _ => by rw [if_neg (by simp)]; rfl
  | j :: js, v, i, h => by
    show (put c js (v.set j c[j]?))[i]? = _
    rw [put_get c js _ i (by rw [List.length_set]; exact h)]
    by_cases h1 : i ∈ js
    · rw [if_pos h1, if_pos (List.mem_cons_of_mem _ h1)]
    · rw [if_neg h1]
      by_cases h2 : j = i
      · subst h2
        rw [if_pos (by simp), List.getElem?_set_self h]
      · rw [List.getElem?_set_ne h2, if_neg (by rw [List.mem_cons]; rintro (e | e); exact h2 e.symm; exact h1 e)]
/-- The words of the values of a list of indices. -/
def iwords (d : List Fact) (c : List Int) (js : List Nat) : List Fact × List Int := (js.filterMap (d[·]?), js.filterMap (c[·]?))
theorem comma_first (e : Nat) (l : List Tok) : comma e true l = .ok ((), l) := rfl
theorem comma_word (e : Nat) (ws : List Word) (a : Nat) : ∃ b, comma e false (spelt (([], 3, [44], 0) :: ws) a) = .ok ((), spelt ws b) := by
  refine ⟨a + ([] : T).length + ([44] : T).length, ?_⟩
  unfold comma
  rw [if_neg (by decide), spelt, bind_is (want_is (.inr rfl))]
theorem valueAt_words {e : Nat} {d : List Fact} {v : List (Option Int)} {at_ i : Nat} {f : Fact} {x : Int} (hv : v.getD i none = none) (hd : d[i]? = some f) (h0 : 0 ≤ x) (hx : f.lo ≤ x ∧ x ≤ f.hi) (ws : List Word) (a : Nat) :
    ∃ b, valueAt e d v at_ (spelt (([32], 3, [61], 0) :: ([32], 2, dec x.toNat, x.toNat) :: ws) a) i = .ok (v.set i (some x), spelt ws b) := by
  unfold valueAt
  rw [if_neg (by rw [hv]; decide), spelt, spelt, bind_is (want_is (.inr rfl))]
  dsimp only
  rw [bind_is (want_is (.inl rfl)), hd]
  dsimp only
  rw [Int.toNat_of_nonneg h0, if_pos hx]
  exact ⟨_, rfl⟩
theorem value1_words {e : Nat} {d : List Fact} (hn : (d.map (·.name)).Nodup) {first : Bool} {v : List (Option Int)} {i : Nat} {f : Fact} {x : Int} (hv : v.getD i none = none) (hd : d[i]? = some f) (h0 : 0 ≤ x) (hx : f.lo ≤ x ∧ x ≤ f.hi) (p : T) (ws : List Word) (l : List Tok) (a : Nat)
    (hl : comma e first l = .ok ((), spelt (vwords p f x ++ ws) a)) : ∃ b, value1 e d first v l = .ok (v.set i (some x), spelt ws b) := by
  unfold value1
  rw [bind_is hl]
  dsimp only
  rw [vwords, List.cons_append, spelt, bind_is (want_is (.inl rfl))]
  dsimp only
  rw [index_at hn hd]
  exact valueAt_words hv hd h0 hx ws _
theorem rest_words {e : Nat} {d : List Fact} {c : List Int} (hn : (d.map (·.name)).Nodup) (hw : within d c = true) (h0 : ∀ x ∈ c, 0 ≤ x) : ∀ (m : Nat) (js : List Nat) (v : List (Option Int)) (a : Nat), js.length ≤ m → js.Nodup → (∀ j ∈ js, j < d.length ∧ v.getD j none = none) →
    valuesF e d m false v (spelt (rwords (iwords d c js).1 (iwords d c js).2) a) = .ok (put c js v)
  | 0, js, v, a, hm, _, _ => by
    have : js = [] := List.length_eq_zero_iff.1 (by omega)
    subst this; rfl
  | m + 1, [], v, a, _, _, _ => rfl
  | m + 1, j :: js, v, a, hm, hnd, hj => by
    obtain ⟨hlen, hget⟩ := within_get.1 hw
    obtain ⟨hjd, hjv⟩ := hj j (by simp)
    have hd : d[j]? = some d[j] := List.getElem?_eq_getElem hjd
    have hjc : j < c.length := by omega
    have hc : c[j]? = some c[j] := List.getElem?_eq_getElem hjc
    have e1 : (iwords d c (j :: js)).1 = d[j] :: (iwords d c js).1 := by simp [iwords, hd]
    have e2 : (iwords d c (j :: js)).2 = c[j] :: (iwords d c js).2 := by simp [iwords, hc]
    rw [e1, e2, rwords]
    obtain ⟨b, hb⟩ := comma_word e (vwords [32] d[j] c[j] ++ rwords (iwords d c js).1 (iwords d c js).2) a
    obtain ⟨b2, hb2⟩ := value1_words (e := e) hn hjv hd (h0 _ (List.getElem_mem _)) (hget j _ _ hd hc) [32] _ _ b hb
    rw [List.nodup_cons] at hnd
    have ih := rest_words (e := e) hn hw h0 m js (v.set j (some c[j])) b2 (by rw [List.length_cons] at hm; omega) hnd.2 (fun i hi => by
      obtain ⟨i1, i2⟩ := hj i (by simp [hi])
      refine ⟨i1, ?_⟩
      have hij : j ≠ i := by rintro rfl; exact hnd.1 hi
      rw [List.getD_eq_getElem?_getD, List.getElem?_set_ne hij, ← List.getD_eq_getElem?_getD]; exact i2)
    cases hsp : spelt (([], 3, [44], 0) :: (vwords [32] d[j] c[j] ++ rwords (iwords d c js).1 (iwords d c js).2)) a with
    | nil => rw [hsp] at hb2; cases hb2
    | cons t r =>
      rw [hsp] at hb2
      rw [valuesF, bind_is hb2]
      show _ = Except.ok (put c js (v.set j c[j]?))
      rw [hc]
      exact ih
theorem case_words {e : Nat} {d : List Fact} {c : List Int} (hn : (d.map (·.name)).Nodup) (hw : within d c = true) (h0 : ∀ x ∈ c, 0 ≤ x) (m : Nat) (js : List Nat) (v : List (Option Int)) (a : Nat) (hm : js.length ≤ m) (hnd : js.Nodup) (hj : ∀ j ∈ js, j < d.length ∧ v.getD j none = none) :
    valuesF e d m true v (spelt (cwords (iwords d c js).1 (iwords d c js).2) a) = .ok (put c js v) := by
  cases js with
  | nil =>
    cases m with
    | zero => rfl
    | succ m => rfl
  | cons j js =>
    cases m with
    | zero => cases hm
    | succ m =>
      obtain ⟨hlen, hget⟩ := within_get.1 hw
      obtain ⟨hjd, hjv⟩ := hj j (by simp)
      have hd : d[j]? = some d[j] := List.getElem?_eq_getElem hjd
      have hjc : j < c.length := by omega
      have hc : c[j]? = some c[j] := List.getElem?_eq_getElem hjc
      have e1 : (iwords d c (j :: js)).1 = d[j] :: (iwords d c js).1 := by simp [iwords, hd]
      have e2 : (iwords d c (j :: js)).2 = c[j] :: (iwords d c js).2 := by simp [iwords, hc]
      rw [e1, e2, cwords]
      obtain ⟨b2, hb2⟩ := value1_words (e := e) hn hjv hd (h0 _ (List.getElem_mem _)) (hget j _ _ hd hc) [] (rwords (iwords d c js).1 (iwords d c js).2) _ a (comma_first e _)
      rw [List.nodup_cons] at hnd
      have ih := rest_words (e := e) hn hw h0 m js (v.set j (some c[j])) b2 (by rw [List.length_cons] at hm; omega) hnd.2 (fun i hi => by
        obtain ⟨i1, i2⟩ := hj i (by simp [hi])
        refine ⟨i1, ?_⟩
        have hij : j ≠ i := by rintro rfl; exact hnd.1 hi
        rw [List.getD_eq_getElem?_getD, List.getElem?_set_ne hij, ← List.getD_eq_getElem?_getD]; exact i2)
      cases hsp : spelt (vwords [] d[j] c[j] ++ rwords (iwords d c js).1 (iwords d c js).2) a with
      | nil => rw [hsp] at hb2; cases hb2
      | cons t r =>
        rw [hsp] at hb2
        rw [valuesF, bind_is hb2]
        show _ = Except.ok (put c js (v.set j c[j]?))
        rw [hc]
        exact ih
theorem cwords_len : ∀ (d : List Fact) (c : List Int), d.length = c.length → c.length ≤ (cwords d c).length
  | [], [], _ => Nat.le_refl _
  | [], _ :: _, h => by cases h
  | _ :: _, [], _ => Nat.zero_le _
  | f :: d, x :: c, h => by
    have : ∀ (d : List Fact) (c : List Int), d.length = c.length → c.length ≤ (rwords d c).length := by
      intro d
      induction d with
      | nil => intro c h; rw [← h]; exact Nat.zero_le _
      | cons g d ih =>
        intro c h
        cases c with
        | nil => cases h
        | cons y c =>
          have := ih c (by simpa using h)
          rw [rwords, List.length_cons, List.length_cons, List.length_append]
          omega
    have := this d c (by simpa using h)
    rw [cwords, List.length_append, List.length_cons]
    have : 1 ≤ (vwords [] f x).length := by simp [vwords]
    omega
/-- Each value of a case once, in any order: the text makes the case. -/
theorem order_text {d : List Fact} {c : List Int} (hv : Valid d) (hw : within d c = true) (js : List Nat) (hnd : js.Nodup) (hj : ∀ j, j ∈ js ↔ j < d.length) (e a : Nat) :
    parseCase e d (lex (ctext (iwords d c js).1 (iwords d c js).2) a).1 = .ok c := by
  obtain ⟨hlen, hget⟩ := within_get.1 hw
  have hc0 : ∀ x ∈ c, 0 ≤ x ∧ x ≤ 1000000 := by
    intro x hx
    obtain ⟨i, hi, rfl⟩ := List.getElem_of_mem hx
    have hd : i < d.length := by omega
    have h1 := hget i d[i] c[i] (List.getElem?_eq_getElem hd) (List.getElem?_eq_getElem hi)
    have h2 := hv.1 d[i] (List.getElem_mem _)
    exact ⟨Int.le_trans h2.low h1.1, Int.le_trans h1.2 h2.high⟩
  have hls : ∀ ks : List Nat, (∀ k ∈ ks, k < d.length) → (iwords d c ks).1.length = ks.length ∧ (iwords d c ks).2.length = ks.length := by
    intro ks
    induction ks with
    | nil => intro _; exact ⟨rfl, rfl⟩
    | cons k ks ih =>
      intro h
      have hk := h k (by simp)
      obtain ⟨i1, i2⟩ := ih (fun i hi => h i (by simp [hi]))
      have hd : d[k]? = some d[k] := List.getElem?_eq_getElem hk
      have hc : c[k]? = some (c[k]'(by omega)) := List.getElem?_eq_getElem (by omega)
      have e1 : (iwords d c (k :: ks)).1 = d[k] :: (iwords d c ks).1 := by simp [iwords, hd]
      have e2 : (iwords d c (k :: ks)).2 = (c[k]'(by omega)) :: (iwords d c ks).2 := by simp [iwords, hc]
      exact ⟨by rw [e1, List.length_cons, List.length_cons, i1], by rw [e2, List.length_cons, List.length_cons, i2]⟩
  obtain ⟨l1, l2⟩ := hls js (fun j h => (hj j).1 h)
  rw [lex_case (fun f hf => by
      obtain ⟨j, _, hj2⟩ := List.mem_filterMap.1 hf
      exact (hv.1 f (List.mem_of_getElem? hj2)).name) (fun x hx => by
      obtain ⟨j, _, hj2⟩ := List.mem_filterMap.1 hx
      exact (hc0 x (List.mem_of_getElem? hj2)).2)]
  unfold parseCase
  have hread := case_words (e := e) hv.2.1 hw (fun x hx => (hc0 x hx).1) (spelt (cwords (iwords d c js).1 (iwords d c js).2) a).length js (d.map fun _ => none) a
    (by rw [spelt_len, ← l2]; exact cwords_len _ _ (by rw [l1, l2])) hnd (fun j h => ⟨(hj j).1 h, by
      rw [List.getD_eq_getElem?_getD, List.getElem?_map]
      cases d[j]? <;> rfl⟩)
  rw [bind_is hread]
  have hput : put c js (d.map fun _ => none) = c.map some := by
    apply List.ext_getElem?
    intro i
    by_cases hi : i < d.length
    · rw [put_get c js _ i (by rw [List.length_map]; exact hi), if_pos ((hj i).2 hi), List.getElem?_map, List.getElem?_eq_getElem (by omega : i < c.length)]
      rfl
    · rw [List.getElem?_eq_none (by rw [put_len, List.length_map]; omega), List.getElem?_eq_none (by rw [List.length_map]; omega)]
  rw [hput, if_pos (by simp), List.map_map]
  exact congrArg Except.ok (List.map_id c)
end Go.Proofs.YtoamkanofhhjfaaGreatDoor.Fc
