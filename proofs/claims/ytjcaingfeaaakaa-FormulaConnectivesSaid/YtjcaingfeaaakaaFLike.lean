/-
  Reading a domain: gaps make no difference, apart from offsets (P6.6).
-/
import Derived.Test.YtjcaingfeaaakaaFParse
namespace Go.Proofs.Ytjcaingfeaaakaa.Fc
open Lx

/-- The same, or errors of one number. -/
def like {α β : Type} (R : α → β → Prop) : Except (Nat × Nat) α → Except (Nat × Nat) β → Prop
  | .ok a, .ok b => R a b
  | .error x, .error y => x.1 = y.1
  | _, _ => False
theorem like_bind {α β γ δ : Type} {R : α → β → Prop} {S : γ → δ → Prop} {x : Except (Nat × Nat) α} {y : Except (Nat × Nat) β} (h : like R x y) {f : α → Except (Nat × Nat) γ} {g : β → Except (Nat × Nat) δ} (hf : ∀ a b, R a b → like S (f a) (g b)) :
    like S (x.bind f) (y.bind g) := by
  cases x with
  | ok a =>
    cases y with
    | ok b => exact hf a b h
    | error e => exact h.elim
  | error e =>
    cases y with
    | ok b => exact h.elim
    | error e2 => exact h
/-- Tokens that are equal apart from offsets. -/
abbrev Alk (a b : List Tok) : Prop := a.map untag = b.map untag
theorem untag_parts {a b : Tok} (h : untag a = untag b) : a.kind = b.kind ∧ a.text = b.text ∧ a.n = b.n := by
  unfold untag at h
  exact ⟨congrArg (·.1) h, congrArg (·.2.1) h, congrArg (·.2.2) h⟩
theorem alk_drop {a b : List Tok} (h : Alk a b) : Alk (a.drop 1) (b.drop 1) := by
  show (a.drop 1).map untag = (b.drop 1).map untag
  rw [List.map_drop, List.map_drop, h]
theorem sees_alk {a b : List Tok} (h : Alk a b) (k : Nat) (x : T) : sees k x a = sees k x b := by
  cases a with
  | nil =>
    cases b with
    | nil => rfl
    | cons u s => cases h
  | cons t r =>
    cases b with
    | nil => cases h
    | cons u s =>
      have h1 : untag t = untag u := (List.cons.inj h).1
      obtain ⟨e1, e2, _⟩ := untag_parts h1
      show (t.kind == k && (x == [] || t.text == x)) = (u.kind == k && (x == [] || u.text == x))
      rw [e1, e2]
/-- What was taken, and what is left. -/
abbrev Alt (a b : Tok × List Tok) : Prop := untag a.1 = untag b.1 ∧ Alk a.2 b.2
theorem want_alk {a b : List Tok} (h : Alk a b) (k : Nat) (x : T) (e e' : Nat) : like Alt (want k x e a) (want k x e' b) := by
  have hs := sees_alk h k x
  cases a with
  | nil =>
    cases b with
    | nil => exact (rfl : (6 : Nat) = 6)
    | cons u s => cases h
  | cons t r =>
    cases b with
    | nil => cases h
    | cons u s =>
      obtain ⟨h1, h2⟩ := List.cons.inj h
      show like Alt (if sees k x (t :: r) = true then .ok (t, r) else .error (5, t.at_)) (if sees k x (u :: s) = true then .ok (u, s) else .error (5, u.at_))
      rw [hs]
      by_cases c : sees k x (u :: s) = true
      · rw [if_pos c, if_pos c]; exact ⟨h1, h2⟩
      · rw [if_neg c, if_neg c]; exact (rfl : (5 : Nat) = 5)
abbrev Alf {α : Type} (a b : α × List Tok) : Prop := a.1 = b.1 ∧ Alk a.2 b.2
theorem kind_alk {a b : List Tok} (h : Alk a b) (e e' : Nat) : like Alf (kindOf e a) (kindOf e' b) := by
  unfold kindOf
  rw [sees_alk h]
  by_cases c : sees 1 wDay b = true
  · rw [if_pos c, if_pos c]; exact ⟨rfl, alk_drop h⟩
  · rw [if_neg c, if_neg c]
    exact like_bind (want_alk h 1 wNumber e e') fun x y hxy => ⟨rfl, hxy.2⟩
theorem range_alk {a b : List Tok} (h : Alk a b) (e e' : Nat) (name : T) (k : Int) : like Alf (range e name k a) (range e' name k b) := by
  unfold range
  refine like_bind (want_alk h 2 [] e e') fun lo lo' hlo => ?_
  have e1 := (untag_parts hlo.1).2.2
  rw [e1]
  by_cases c : 1000000 < lo'.1.n
  · rw [if_pos c, if_pos c]; exact (rfl : (10 : Nat) = 10)
  rw [if_neg c, if_neg c]
  refine like_bind (want_alk hlo.2 1 wTo e e') fun to to' hto => ?_
  refine like_bind (want_alk hto.2 2 [] e e') fun hi hi' hhi => ?_
  have e2 := (untag_parts hhi.1).2.2
  rw [e2]
  by_cases c2 : 1000000 < hi'.1.n ∨ hi'.1.n < lo'.1.n
  · rw [if_pos c2, if_pos c2]; exact (rfl : (10 : Nat) = 10)
  rw [if_neg c2, if_neg c2]
  exact like_bind (want_alk hhi.2 3 [59] e e') fun z z' hz => ⟨rfl, hz.2⟩
theorem fact1_alk {a b : List Tok} (h : Alk a b) (e e' : Nat) (d : List Fact) : like Alf (fact1 e d a) (fact1 e' d b) := by
  unfold fact1
  refine like_bind (want_alk h 1 [] e e') fun n n' hn => ?_
  have e1 := (untag_parts hn.1).2.1
  rw [e1, sees_alk hn.2]
  by_cases c : n'.1.text ∈ d.map (·.name)
  · rw [if_pos c, if_pos c]; exact (rfl : (9 : Nat) = 9)
  rw [if_neg c, if_neg c]
  by_cases c2 : d.length = 60
  · rw [if_pos c2, if_pos c2]; exact (rfl : (2 : Nat) = 2)
  rw [if_neg c2, if_neg c2]
  by_cases c3 : sees 1 wFlag n'.2 = true
  · rw [if_pos c3, if_pos c3]
    exact like_bind (want_alk (alk_drop hn.2) 3 [59] e e') fun z z' hz => ⟨rfl, hz.2⟩
  · rw [if_neg c3, if_neg c3]
    refine like_bind (kind_alk hn.2 e e') fun k k' hk => ?_
    rw [hk.1]
    exact range_alk hk.2 e e' n'.1.text k'.1
theorem parseF_alk (e e' : Nat) : ∀ (m : Nat) (d : List Fact) (a b : List Tok), Alk a b → like Eq (parseF e m d a) (parseF e' m d b)
  | 0, d, a, b, _ => (rfl : d = d)
  | m + 1, d, [], [], _ => (rfl : d = d)
  | m + 1, d, [], u :: s, h => by cases h
  | m + 1, d, t :: r, [], h => by cases h
  | m + 1, d, t :: r, u :: s, h => by
    rw [parseF, parseF]
    refine like_bind (fact1_alk h e e' d) fun f g hfg => ?_
    rw [hfg.1]
    exact parseF_alk e e' m _ f.2 g.2 hfg.2
/-- Tokens that are equal apart from offsets make the same domain, or the same error. -/
theorem parse_alk {a b : List Tok} (h : Alk a b) (e e' : Nat) : like Eq (parse e a) (parse e' b) := by
  have hl : a.length = b.length := by have := congrArg List.length h; rwa [List.length_map, List.length_map] at this
  unfold parse
  rw [hl]
  exact parseF_alk e e' _ [] a b h
end Go.Proofs.Ytjcaingfeaaakaa.Fc
