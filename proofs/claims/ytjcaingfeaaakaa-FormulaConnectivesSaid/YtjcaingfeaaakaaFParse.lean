/-
  Reading a domain from tokens, in arithmetic (F3, P6.2).
-/
import Derived.Test.YtjcaingfeaaakaaFText
namespace Go.Proofs.Ytjcaingfeaaakaa.Fc
open Lx

/-- Whether the next token has a kind and a text. -/
def sees (k : Nat) (x : T) : List Tok → Bool
  | [] => false
  | t :: _ => t.kind == k && (x == [] || t.text == x)
/-- The next token, which is to have a kind and a text; e is where the text ends. -/
def want (k : Nat) (x : T) (e : Nat) : List Tok → Except (Nat × Nat) (Tok × List Tok)
  | [] => .error (6, e)
  | t :: r => if sees k x (t :: r) then .ok (t, r) else .error (5, t.at_)
def kindOf (e : Nat) (l : List Tok) : Except (Nat × Nat) (Int × List Tok) :=
  if sees 1 wDay l then .ok (3, l.drop 1) else (want 1 wNumber e l).bind fun x => .ok (2, x.2)
def range (e : Nat) (name : T) (k : Int) (l : List Tok) : Except (Nat × Nat) (Fact × List Tok) :=
  (want 2 [] e l).bind fun lo =>
  if 1000000 < lo.1.n then .error (10, lo.1.at_) else
  (want 1 wTo e lo.2).bind fun to =>
  (want 2 [] e to.2).bind fun hi =>
  if 1000000 < hi.1.n ∨ hi.1.n < lo.1.n then .error (10, hi.1.at_) else
  (want 3 [59] e hi.2).bind fun z => .ok (⟨name, k, lo.1.n, hi.1.n⟩, z.2)
/-- One fact. -/
def fact1 (e : Nat) (d : List Fact) (l : List Tok) : Except (Nat × Nat) (Fact × List Tok) :=
  (want 1 [] e l).bind fun n =>
  if n.1.text ∈ d.map (·.name) then .error (9, n.1.at_)
  else if d.length = 60 then .error (2, n.1.at_)
  else if sees 1 wFlag n.2 then (want 3 [59] e (n.2.drop 1)).bind fun z => .ok (⟨n.1.text, 1, 0, 1⟩, z.2)
  else (kindOf e n.2).bind fun k => range e n.1.text k.1 k.2
def parseF (e : Nat) : Nat → List Fact → List Tok → Except (Nat × Nat) (List Fact)
  | 0, d, _ => .ok d
  | m + 1, d, l => match l with
    | [] => .ok d
    | t :: r => (fact1 e d (t :: r)).bind fun f => parseF e m (d ++ [f.1]) f.2
/-- The facts that tokens make, or the first error with its offset. -/
def parse (e : Nat) (l : List Tok) : Except (Nat × Nat) (List Fact) := parseF e l.length [] l

theorem want_ok {k : Nat} {x : T} {e : Nat} {l : List Tok} {y : Tok × List Tok} (h : want k x e l = .ok y) : l = y.1 :: y.2 ∧ y.1.kind = k ∧ (x = [] ∨ y.1.text = x) := by
  cases l with
  | nil => cases h
  | cons t r =>
    have h : (if sees k x (t :: r) = true then Except.ok (t, r) else Except.error (5, t.at_)) = Except.ok y := h
    by_cases hs : sees k x (t :: r) = true
    · rw [if_pos hs] at h
      have e : (t, r) = y := Except.ok.inj h
      subst e
      unfold sees at hs
      simp only [Bool.and_eq_true, Bool.or_eq_true, beq_iff_eq] at hs
      exact ⟨rfl, hs.1, hs.2⟩
    · rw [if_neg hs] at h; cases h
theorem bind_ok {ε α β : Type} {x : Except ε α} {f : α → Except ε β} {b : β} (h : x.bind f = .ok b) : ∃ a, x = .ok a ∧ f a = .ok b := by
  cases x with
  | error e => cases h
  | ok a => exact ⟨a, rfl, h⟩
theorem good_two {k : Nat} {t : T} {n : Nat} (h : Good k t n) : k = 2 → n = value t := by
  rintro rfl
  rcases h with ⟨h, _⟩ | ⟨_, h, _⟩ | ⟨h, _⟩
  · cases h
  · exact h
  · cases h
theorem good_one {k : Nat} {t : T} {n : Nat} (h : Good k t n) (hk : k = 1) : Good 1 t 0 := by
  subst hk
  rcases h with h | ⟨h, _⟩ | ⟨h, _⟩
  · exact .inl ⟨rfl, rfl, h.2.2⟩
  · cases h
  · cases h
/-- What a fact that was read is: it is well-formed, and new. -/
theorem fact1_ok {e : Nat} {d : List Fact} {l : List Tok} {f : Fact} {r : List Tok} (hg : ∀ t ∈ l, Good t.kind t.text t.n) (h : fact1 e d l = .ok (f, r)) :
    Ok f ∧ f.name ∉ d.map (·.name) ∧ d.length ≠ 60 ∧ (∃ u, l = u ++ r ∧ u ≠ []) := by
  unfold fact1 at h
  obtain ⟨⟨n, l1⟩, h1, h'⟩ := bind_ok h
  clear h
  rename _ = _ => h
  obtain ⟨e1, k1, _⟩ := want_ok h1
  subst e1
  have gn : Good 1 n.text 0 := good_one (hg n (by simp)) k1
  dsimp only at h
  by_cases c1 : n.text ∈ d.map (·.name)
  · rw [if_pos c1] at h; cases h
  rw [if_neg c1] at h
  by_cases c2 : d.length = 60
  · rw [if_pos c2] at h; cases h
  rw [if_neg c2] at h
  by_cases c3 : sees 1 wFlag l1 = true
  · rw [if_pos c3] at h
    obtain ⟨⟨z, l2⟩, h2, h⟩ := bind_ok h
    obtain ⟨e2, _, _⟩ := want_ok h2
    have e3 : (⟨n.text, 1, 0, 1⟩, l2) = (f, r) := Except.ok.inj h
    obtain ⟨rfl, rfl⟩ := Prod.mk.inj e3
    refine ⟨⟨gn, (by decide : (0 : Int) ≤ 0), (by decide : (0 : Int) ≤ 1), (by decide : (1 : Int) ≤ 1000000), .inl rfl, fun _ => ⟨rfl, rfl⟩⟩, c1, c2, ?_⟩
    cases l1 with
    | nil => cases c3
    | cons t l1 =>
      have e2 : l1 = z :: l2 := e2
      exact ⟨[n, t, z], by rw [e2]; rfl, by simp⟩
  · rw [if_neg c3] at h
    obtain ⟨⟨k, l2⟩, h2, g2⟩ := bind_ok h
    clear h
    have hk : (k = 2 ∨ k = 3) ∧ ∃ t, l1 = t :: l2 := by
      unfold kindOf at h2
      by_cases c4 : sees 1 wDay l1 = true
      · rw [if_pos c4] at h2
        obtain ⟨rfl, e5⟩ := Prod.mk.inj (Except.ok.inj h2)
        cases l1 with
        | nil => cases c4
        | cons t l1 => exact ⟨.inr rfl, t, by rw [← e5]; rfl⟩
      · rw [if_neg c4] at h2
        obtain ⟨⟨t, l4⟩, h3, h2⟩ := bind_ok h2
        obtain ⟨e5, _, _⟩ := want_ok h3
        obtain ⟨rfl, rfl⟩ := Prod.mk.inj (Except.ok.inj h2)
        exact ⟨.inl rfl, t, e5⟩
    obtain ⟨hk, t, rfl⟩ := hk
    unfold range at g2
    obtain ⟨⟨lo, l3⟩, h3, g2⟩ := bind_ok g2
    obtain ⟨e3, _, _⟩ := want_ok h3
    simp only at g2 e3
    by_cases c5 : 1000000 < lo.n
    · rw [if_pos c5] at g2; cases g2
    rw [if_neg c5] at g2
    obtain ⟨⟨to, l4⟩, h4, g2⟩ := bind_ok g2
    obtain ⟨e4, _, _⟩ := want_ok h4
    simp only at g2 e4
    obtain ⟨⟨hi, l5⟩, h5, g2⟩ := bind_ok g2
    obtain ⟨e5, _, _⟩ := want_ok h5
    simp only at g2 e5
    by_cases c6 : 1000000 < hi.n ∨ hi.n < lo.n
    · rw [if_pos c6] at g2; cases g2
    rw [if_neg c6] at g2
    obtain ⟨⟨z, l6⟩, h6, g2⟩ := bind_ok g2
    obtain ⟨e6, _, _⟩ := want_ok h6
    simp only at e6
    obtain ⟨rfl, rfl⟩ := Prod.mk.inj (Except.ok.inj g2)
    refine ⟨⟨gn, Int.natCast_nonneg _, by show (lo.n : Int) ≤ hi.n; omega, by show (hi.n : Int) ≤ 1000000; omega, .inr hk, fun h1 => ?_⟩, c1, c2, ?_⟩
    · rcases hk with rfl | rfl <;> cases h1
    · exact ⟨[n, t, lo, to, hi, z], by rw [e3, e4, e5, e6]; rfl, by simp⟩
/-- The facts of a valid domain. -/
def Valid (d : List Fact) : Prop := (∀ f ∈ d, Ok f) ∧ (d.map (·.name)).Nodup ∧ d.length ≤ 60
theorem Valid.snoc {d : List Fact} (h : Valid d) {f : Fact} (hf : Ok f) (hn : f.name ∉ d.map (·.name)) (hl : d.length ≠ 60) : Valid (d ++ [f]) := by
  refine ⟨fun g hg => ?_, ?_, ?_⟩
  · rcases List.mem_append.1 hg with hg | hg
    · exact h.1 g hg
    · rw [List.mem_singleton] at hg; subst hg; exact hf
  · rw [List.map_append, List.nodup_append]
    refine ⟨h.2.1, by simp, fun a ha b hb => ?_⟩
    have hb : b = f.name := by simpa using hb
    subst hb
    intro e; subst e; exact hn ha
  · have := h.2.2; rw [List.length_append, List.length_singleton]; omega
theorem parseF_ok (e : Nat) : ∀ (m : Nat) (d : List Fact) (l : List Tok) (x : List Fact), (∀ t ∈ l, Good t.kind t.text t.n) → Valid d → parseF e m d l = .ok x → Valid x
  | 0, d, l, x, _, hd, h => by
    have e : d = x := Except.ok.inj h
    subst e; exact hd
  | m + 1, d, [], x, _, hd, h => by
    have e : d = x := Except.ok.inj h
    subst e; exact hd
  | m + 1, d, t :: r, x, hg, hd, h => by
    rw [parseF] at h
    obtain ⟨⟨f, r2⟩, h1, h2⟩ := bind_ok h
    obtain ⟨i1, i2, i3, u, i4, _⟩ := fact1_ok hg h1
    exact parseF_ok e m _ r2 x (fun t2 ht => hg t2 (by rw [i4]; exact List.mem_append_right _ ht)) (hd.snoc i1 i2 i3) h2
/-- What is read from tokens of a text is valid. -/
theorem parse_ok {e : Nat} {l : List Tok} {x : List Fact} (hg : ∀ t ∈ l, Good t.kind t.text t.n) (h : parse e l = .ok x) : Valid x :=
  parseF_ok e _ _ _ _ hg ⟨by simp, by simp, by simp⟩ h
/-! ### The canonical text is read -/
theorem want_yes {k : Nat} {x : T} {e : Nat} {t : Tok} {r : List Tok} (hk : t.kind = k) (hx : x = [] ∨ t.text = x) : want k x e (t :: r) = .ok (t, r) := by
  have : sees k x (t :: r) = true := by
    unfold sees
    simp only [Bool.and_eq_true, Bool.or_eq_true, beq_iff_eq]
    exact ⟨hk, hx⟩
  exact if_pos this
theorem sees_no {k : Nat} {x : T} {t : Tok} {r : List Tok} (h1 : x ≠ []) (h2 : t.text ≠ x) : sees k x (t :: r) = false := by
  show (t.kind == k && (x == [] || t.text == x)) = false
  rw [show (x == []) = false by rw [beq_eq_false_iff_ne]; exact h1, show (t.text == x) = false by rw [beq_eq_false_iff_ne]; exact h2]
  simp
theorem sees_yes {k : Nat} {x : T} {t : Tok} {r : List Tok} (h1 : t.kind = k) (h2 : t.text = x) : sees k x (t :: r) = true := by
  unfold sees
  simp only [Bool.and_eq_true, Bool.or_eq_true, beq_iff_eq]
  exact ⟨h1, .inr h2⟩
theorem want_is {k : Nat} {x : T} {e : Nat} {u : T} {n o : Nat} {r : List Tok} (hx : x = [] ∨ u = x) : want k x e (⟨k, u, n, o⟩ :: r) = .ok (⟨k, u, n, o⟩, r) := want_yes rfl hx
theorem sees_is {k : Nat} {u : T} {n o : Nat} {r : List Tok} : sees k u (⟨k, u, n, o⟩ :: r) = true := sees_yes rfl rfl
theorem bind_is {ε α β : Type} {x : Except ε α} {a : α} (h : x = .ok a) (f : α → Except ε β) : x.bind f = f a := by rw [h]; rfl
theorem fact1_words {d : List Fact} {f : Fact} (hf : Ok f) (hn : f.name ∉ d.map (·.name)) (hl : d.length ≠ 60) (e : Nat) (p : T) (ws : List Word) (a : Nat) :
    ∃ b, fact1 e d (spelt (fwords p f ++ ws) a) = .ok (f, spelt ws b) := by
  obtain ⟨nm, k, lo, hi⟩ := f
  unfold fwords
  by_cases hk : k = 1
  · obtain ⟨e1, e2⟩ := hf.flag hk
    have e1 : lo = 0 := e1
    have e2 : hi = 1 := e2
    subst hk e1 e2
    rw [if_pos rfl]
    simp only [List.cons_append, List.nil_append, spelt]
    unfold fact1
    rw [bind_is (want_is (.inl rfl))]
    dsimp only
    rw [if_neg hn, if_neg hl, if_pos sees_is, List.drop_succ_cons, List.drop_zero, bind_is (want_is (.inr rfl))]
    exact ⟨_, rfl⟩
  · have hlow : 0 ≤ lo := hf.low
    have hle : lo ≤ hi := hf.le
    have hhi : hi ≤ 1000000 := hf.high
    rw [if_neg hk]
    simp only [List.cons_append, List.nil_append, spelt]
    unfold fact1
    rw [bind_is (want_is (.inl rfl))]
    dsimp only
    have h2 : (if k = 2 then wNumber else wDay) ≠ wFlag := by
      by_cases h : k = 2
      · rw [if_pos h]; decide
      · rw [if_neg h]; decide
    rw [if_neg hn, if_neg hl, if_neg (by rw [sees_no (by decide) h2]; decide)]
    have hkind : ∀ (o : Nat) (r : List Tok), kindOf e (⟨1, if k = 2 then wNumber else wDay, 0, o⟩ :: r) = .ok (k, r) := by
      intro o r
      unfold kindOf
      by_cases h : k = 2
      · subst h
        rw [if_pos rfl, if_neg (by rw [sees_no (by decide) (by show wNumber ≠ wDay; decide)]; decide), bind_is (want_is (.inr rfl))]
      · have h3 : k = 3 := by
          rcases hf.kind with h1 | h1 | h1
          · exact absurd h1 hk
          · exact absurd h1 h
          · exact h1
        subst h3
        show (if sees 1 wDay (⟨1, wDay, 0, o⟩ :: r) = true then (Except.ok (3, List.drop 1 (⟨1, wDay, 0, o⟩ :: r)) : Except (Nat × Nat) (Int × List Tok)) else _) = _
        rw [if_pos sees_is]
        rfl
    rw [bind_is (hkind _ _)]
    unfold range
    rw [bind_is (want_is (.inl rfl))]
    dsimp only
    rw [if_neg (by omega), bind_is (want_is (.inr rfl))]
    dsimp only
    rw [bind_is (want_is (.inl rfl))]
    dsimp only
    rw [if_neg (by omega), bind_is (want_is (.inr rfl)), Int.toNat_of_nonneg hlow, Int.toNat_of_nonneg (Int.le_trans hlow hle)]
    exact ⟨_, rfl⟩
theorem parseF_words (e : Nat) : ∀ (m : Nat) (d x : List Fact) (p : T) (a : Nat), x.length ≤ m → Valid (d ++ x) → parseF e m d (spelt (dwords p x) a) = .ok (d ++ x)
  | 0, d, x, p, a, hm, _ => by
    have : x = [] := List.length_eq_zero_iff.1 (by omega)
    subst this
    rw [List.append_nil]; rfl
  | m + 1, d, [], p, a, _, _ => by rw [List.append_nil]; rfl
  | m + 1, d, f :: x, p, a, hm, hv => by
    have hn : f.name ∉ d.map (·.name) := by
      have := hv.2.1
      rw [List.map_append, List.nodup_append] at this
      intro hin
      exact this.2.2 _ hin _ (by rw [List.map_cons]; exact List.mem_cons_self) rfl
    have hl : d.length ≠ 60 := by have := hv.2.2; rw [List.length_append, List.length_cons] at this; omega
    obtain ⟨b, hb⟩ := fact1_words (hv.1 f (by simp)) hn hl e p (dwords [10] x) a
    have ih := parseF_words e m (d ++ [f]) x [10] b (by rw [List.length_cons] at hm; omega) (by rw [List.append_assoc]; exact hv)
    rw [List.append_assoc] at ih
    rw [dwords]
    cases hsp : spelt (fwords p f ++ dwords [10] x) a with
    | nil => rw [hsp] at hb; cases hb
    | cons t r =>
      rw [hsp] at hb
      rw [parseF, bind_is hb]
      exact ih
theorem dwords_len : ∀ (d : List Fact) (p : T), d.length ≤ (dwords p d).length
  | [], _ => Nat.zero_le _
  | f :: d, p => by
    have := dwords_len d [10]
    rw [dwords, List.length_append, List.length_cons]
    have : 1 ≤ (fwords p f).length := by
      unfold fwords
      by_cases h : f.kind = 1
      · rw [if_pos h]; simp
      · rw [if_neg h]; simp
    omega
/-- The canonical text of a valid domain makes this domain. -/
theorem parse_text {d : List Fact} (h : Valid d) (e a : Nat) : parse e (lex (dtext d) a).1 = .ok d := by
  rw [lex_dom h.1, parse]
  have := parseF_words e (spelt (dwords [] d) a).length [] d [] a (by rw [spelt_len]; exact dwords_len d []) h
  rwa [List.nil_append] at this
/-- Different valid domains have different canonical texts. -/
theorem text_inj {c d : List Fact} (hc : Valid c) (hd : Valid d) (h : dtext c = dtext d) : c = d := by
  have h1 := parse_text hc 0 0
  rw [h, parse_text hd 0 0] at h1
  exact (Except.ok.inj h1).symm
end Go.Proofs.Ytjcaingfeaaakaa.Fc
