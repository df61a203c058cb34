/-
  Reading a case from tokens, in arithmetic (F4; P6.3, P6.4, P6.6).
-/
import Derived.Test.YtjcaingfeaaakaaFLike
namespace Go.Proofs.Ytjcaingfeaaakaa.Fc
open Lx

/-- The index of the first fact with a name. -/
def index (d : List Fact) (name : T) : Option Nat := d.findIdx? fun f => f.name == name
/-- A comma, but before the first value. -/
def comma (e : Nat) (first : Bool) (l : List Tok) : Except (Nat × Nat) (Unit × List Tok) :=
  if first then .ok ((), l) else (want 3 [44] e l).bind fun z => .ok ((), z.2)
/-- The value of the fact with an index. -/
def valueAt (e : Nat) (d : List Fact) (v : List (Option Int)) (at_ : Nat) (l : List Tok) (i : Nat) : Except (Nat × Nat) (List (Option Int) × List Tok) :=
  if (v.getD i none).isSome then .error (9, at_) else
  (want 3 [61] e l).bind fun q =>
  (want 2 [] e q.2).bind fun x =>
  match d[i]? with
  | none => .error (7, at_)
  | some f => if f.lo ≤ x.1.n ∧ (x.1.n : Int) ≤ f.hi then .ok (v.set i (some (x.1.n : Int)), x.2) else .error (10, x.1.at_)
def value1 (e : Nat) (d : List Fact) (first : Bool) (v : List (Option Int)) (l : List Tok) : Except (Nat × Nat) (List (Option Int) × List Tok) :=
  (comma e first l).bind fun z =>
  (want 1 [] e z.2).bind fun n =>
  match index d n.1.text with
  | none => .error (7, n.1.at_)
  | some i => valueAt e d v n.1.at_ n.2 i
def valuesF (e : Nat) (d : List Fact) : Nat → Bool → List (Option Int) → List Tok → Except (Nat × Nat) (List (Option Int))
  | 0, _, v, _ => .ok v
  | m + 1, first, v, l => match l with
    | [] => .ok v
    | t :: r => (value1 e d first v (t :: r)).bind fun x => valuesF e d m false x.1 x.2
/-- The values that tokens make, or the first error with its offset. -/
def parseCase (e : Nat) (d : List Fact) (l : List Tok) : Except (Nat × Nat) (List Int) :=
  (valuesF e d l.length true (d.map fun _ => none) l).bind fun v =>
  if v.all Option.isSome then .ok (v.map fun o => o.getD 0) else .error (11, e)

/-! ### Gaps -/
theorem value1_alk {a b : List Tok} (h : Alk a b) (e e' : Nat) (d : List Fact) (first : Bool) (v : List (Option Int)) : like Alf (value1 e d first v a) (value1 e' d first v b) := by
  unfold value1
  have hc : like Alf (comma e first a) (comma e' first b) := by
    unfold comma
    cases first with
    | true => exact ⟨rfl, h⟩
    | false => exact like_bind (want_alk h 3 [44] e e') fun z z' hz => ⟨rfl, hz.2⟩
  refine like_bind hc fun z z' hz => ?_
  refine like_bind (want_alk hz.2 1 [] e e') fun n n' hn => ?_
  rw [(untag_parts hn.1).2.1]
  cases index d n'.1.text with
  | none => exact (rfl : (7 : Nat) = 7)
  | some i =>
    show like Alf (valueAt e d v n.1.at_ n.2 i) (valueAt e' d v n'.1.at_ n'.2 i)
    unfold valueAt
    by_cases c : (v.getD i none).isSome = true
    · rw [if_pos c, if_pos c]; exact (rfl : (9 : Nat) = 9)
    rw [if_neg c, if_neg c]
    refine like_bind (want_alk hn.2 3 [61] e e') fun q q' hq => ?_
    refine like_bind (want_alk hq.2 2 [] e e') fun x x' hx => ?_
    rw [(untag_parts hx.1).2.2]
    cases d[i]? with
    | none => exact (rfl : (7 : Nat) = 7)
    | some f =>
      dsimp only
      by_cases c2 : f.lo ≤ (x'.1.n : Int) ∧ (x'.1.n : Int) ≤ f.hi
      · rw [if_pos c2, if_pos c2]; exact ⟨rfl, hx.2⟩
      · rw [if_neg c2, if_neg c2]; exact (rfl : (10 : Nat) = 10)
theorem valuesF_alk (e e' : Nat) (d : List Fact) : ∀ (m : Nat) (first : Bool) (v : List (Option Int)) (a b : List Tok), Alk a b → like Eq (valuesF e d m first v a) (valuesF e' d m first v b)
  | 0, _, v, _, _, _ => (rfl : v = v)
  | m + 1, _, v, [], [], _ => (rfl : v = v)
  | m + 1, _, v, [], u :: s, h => by cases h
  | m + 1, _, v, t :: r, [], h => by cases h
  | m + 1, first, v, t :: r, u :: s, h => by
    rw [valuesF, valuesF]
    refine like_bind (value1_alk h e e' d first v) fun f g hfg => ?_
    rw [hfg.1]
    exact valuesF_alk e e' d m false _ f.2 g.2 hfg.2
theorem case_alk {a b : List Tok} (h : Alk a b) (e e' : Nat) (d : List Fact) : like Eq (parseCase e d a) (parseCase e' d b) := by
  have hl : a.length = b.length := by have := congrArg List.length h; rwa [List.length_map, List.length_map] at this
  unfold parseCase
  rw [hl]
  refine like_bind (valuesF_alk e e' d _ true _ a b h) fun v w hvw => ?_
  subst hvw
  by_cases c : v.all Option.isSome = true
  · rw [if_pos c, if_pos c]; exact (rfl : _ = _)
  · rw [if_neg c, if_neg c]; exact (rfl : (11 : Nat) = 11)

/-! ### What is read fits -/
/-- The values that are there are within the bounds. -/
def Part (d : List Fact) (v : List (Option Int)) : Prop := v.length = d.length ∧ ∀ (i : Nat) (f : Fact) (x : Int), d[i]? = some f → v[i]? = some (some x) → f.lo ≤ x ∧ x ≤ f.hi
theorem Part.set {d : List Fact} {v : List (Option Int)} (h : Part d v) {i : Nat} {f : Fact} {x : Int} (hf : d[i]? = some f) (hx : f.lo ≤ x ∧ x ≤ f.hi) : Part d (v.set i (some x)) := by
  refine ⟨by rw [List.length_set]; exact h.1, fun j g y hg hy => ?_⟩
  by_cases e : i = j
  · subst e
    rw [List.getElem?_set_self (by rw [h.1]; exact (List.getElem?_eq_some_iff.1 hf).1)] at hy
    have hy : x = y := by simpa using hy
    rw [hf] at hg
    have hg : f = g := Option.some.inj hg
    subst hy hg; exact hx
  · rw [List.getElem?_set_ne e] at hy
    exact h.2 j g y hg hy
theorem value1_part {e : Nat} {d : List Fact} {first : Bool} {v : List (Option Int)} {l : List Tok} {y : List (Option Int) × List Tok} (h : Part d v) (hv : value1 e d first v l = .ok y) : Part d y.1 := by
  unfold value1 at hv
  obtain ⟨z, _, hv⟩ := bind_ok hv
  obtain ⟨n, _, hv⟩ := bind_ok hv
  cases hi : index d n.1.text with
  | none => rw [hi] at hv; cases hv
  | some i =>
    rw [hi] at hv
    have hv : valueAt e d v n.1.at_ n.2 i = .ok y := hv
    unfold valueAt at hv
    by_cases c : (v.getD i none).isSome = true
    · rw [if_pos c] at hv; cases hv
    rw [if_neg c] at hv
    obtain ⟨q, _, hv⟩ := bind_ok hv
    obtain ⟨x, _, hv⟩ := bind_ok hv
    cases hd : d[i]? with
    | none => rw [hd] at hv; cases hv
    | some f =>
      rw [hd] at hv
      dsimp only at hv
      by_cases c2 : f.lo ≤ (x.1.n : Int) ∧ (x.1.n : Int) ≤ f.hi
      · rw [if_pos c2] at hv
        have e2 := Except.ok.inj hv
        rw [← e2]
        exact h.set hd c2
      · rw [if_neg c2] at hv; cases hv
theorem valuesF_part {e : Nat} {d : List Fact} : ∀ (m : Nat) (first : Bool) (v : List (Option Int)) (l : List Tok) (y : List (Option Int)), Part d v → valuesF e d m first v l = .ok y → Part d y
  | 0, _, v, l, y, h, hv => by
    have e : v = y := Except.ok.inj hv
    subst e; exact h
  | m + 1, _, v, [], y, h, hv => by
    have e : v = y := Except.ok.inj hv
    subst e; exact h
  | m + 1, first, v, t :: r, y, h, hv => by
    rw [valuesF] at hv
    obtain ⟨x, h1, h2⟩ := bind_ok hv
    exact valuesF_part m false _ _ y (value1_part h h1) h2
/-- What is read is within the bounds. -/
theorem case_within {e : Nat} {d : List Fact} {l : List Tok} {c : List Int} (h : parseCase e d l = .ok c) : within d c = true := by
  unfold parseCase at h
  obtain ⟨v, h1, h⟩ := bind_ok h
  have hp : Part d v := valuesF_part _ _ _ _ v ⟨by simp, fun i f x _ hx => by
    rw [List.getElem?_map] at hx
    cases hd : d[i]? with
    | none => rw [hd] at hx; cases hx
    | some g => rw [hd] at hx; cases hx⟩ h1
  by_cases c1 : v.all Option.isSome = true
  · rw [if_pos c1] at h
    have e2 := Except.ok.inj h
    rw [← e2]
    refine within_get.2 ⟨by rw [List.length_map, hp.1], fun i f x hf hx => ?_⟩
    rw [List.getElem?_map] at hx
    cases hv : v[i]? with
    | none => rw [hv] at hx; cases hx
    | some o =>
      rw [hv] at hx
      have ho : o.isSome = true := List.all_eq_true.1 c1 o (List.mem_of_getElem? hv)
      cases o with
      | none => cases ho
      | some y =>
        have hx : y = x := by simpa using hx
        subst hx
        exact hp.2 i f y hf hv
  · rw [if_neg c1] at h; cases h
end Go.Proofs.Ytjcaingfeaaakaa.Fc
