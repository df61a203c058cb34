import Derived.Test.YtoamkanofhhjfaaGreatDoorKFBnds
import Derived.Test.YtoamkanofhhjfaaGreatDoorKFMap
/-
  Reading a domain in the order in which the reader asks, in arithmetic; it is the same.
-/
namespace Go.Proofs.YtoamkanofhhjfaaGreatDoor
namespace Fc
open Lx

/-- Tokens as the lexer makes them. -/
def Goods (l : List Tok) : Prop := ∀ t ∈ l, Lx.Good t.kind t.text t.n
theorem Goods.tail {t : Tok} {l : List Tok} (h : Goods (t :: l)) : Goods l := fun u hu => h u (by simp [hu])
theorem Goods.want {k : Nat} {x : T} {e : Nat} {l : List Tok} {y : Tok × List Tok} (h : Goods l) (hw : want k x e l = .ok y) : Goods y.2 := by
  obtain ⟨e1, _⟩ := want_ok hw
  rw [e1] at h
  exact h.tail
/-- Texts whose kind can be told. -/
def Told (k : Nat) (x : T) : Prop := x ≠ [] ∧ ∀ k' n, Lx.Good k' x n → k' = k
theorem told_name {c : UInt8} {r : T} (hc : isLetter c = true) : Told 1 (c :: r) := ⟨by simp, fun k n h => by
  rcases h with ⟨h, _⟩ | ⟨_, _, d, s, e, hd, _⟩ | ⟨_, _, ⟨d, e, hd⟩ | ⟨d, e, hd⟩⟩
  · exact h
  · obtain ⟨rfl, _⟩ := List.cons.inj e
    have := digit_noletter hd
    rw [hc] at this; cases this
  · obtain ⟨rfl, _⟩ := List.cons.inj e
    have := (two_plain hd).2.1
    rw [hc] at this; cases this
  · obtain ⟨rfl, _⟩ := List.cons.inj e
    have := (one_plain hd).2.1
    rw [hc] at this; cases this⟩
theorem told_sym {c : UInt8} (hc : isOne c = true) : Told 3 [c] := ⟨by simp, fun k n h => by
  rcases h with ⟨_, _, d, s, e, hd, _⟩ | ⟨_, _, d, s, e, hd, _⟩ | ⟨h, _⟩
  · obtain ⟨rfl, _⟩ := List.cons.inj e
    have := (one_plain hc).2.1
    rw [hd] at this; cases this
  · obtain ⟨rfl, _⟩ := List.cons.inj e
    have := (one_plain hc).2.2
    rw [hd] at this; cases this
  · exact h⟩
theorem sees_told {k : Nat} {x : T} (hx : Told k x) {t : Tok} {r : List Tok} (hg : Lx.Good t.kind t.text t.n) : sees k x (t :: r) = decide (t.text = x) := by
  by_cases h : t.text = x
  · rw [decide_eq_true h]
    exact sees_yes (hx.2 _ _ (h ▸ hg)) h
  · rw [decide_eq_false h]
    exact sees_no hx.1 h
theorem want_told {α : Type} {k : Nat} {x : T} (hx : Told k x) {e : Nat} {l : List Tok} (hg : Goods l) (f : List Tok → Except (Nat × Nat) α) : (want k x e l).bind (fun z => f z.2) = (wordT e x l).bind fun z => f z.2 := by
  cases l with
  | nil => rfl
  | cons t r =>
    show (if sees k x (t :: r) = true then Except.ok (t, r) else Except.error (5, t.at_) : Except (Nat × Nat) (Tok × List Tok)).bind _ = (if t.text = x then Except.ok ((), r) else Except.error (5, t.at_) : Except (Nat × Nat) (Unit × List Tok)).bind _
    rw [sees_told hx (hg t (by simp))]
    by_cases h : t.text = x
    · rw [decide_eq_true h, if_pos rfl, if_pos h]; rfl
    · rw [decide_eq_false h, if_neg (by decide), if_neg h]; rfl
def kindP (e : Nat) (name : T) (kd : Tok × List Tok) : Except (Nat × Nat) (Fact × List Tok) :=
  if kd.1.text = wFlag then .ok (⟨name, 1, 0, 1⟩, kd.2) else if kd.1.text = wNumber then bnd e name 2 kd.2 else if kd.1.text = wDay then bnd e name 3 kd.2 else .error (5, kd.1.at_)
/-- One fact, as the reader asks. -/
def factP (e : Nat) (d : List Fact) (l : List Tok) : Except (Nat × Nat) (Fact × List Tok) :=
  (want 1 [] e l).bind fun n =>
  if 0 ≤ idx d n.1.text then .error (9, n.1.at_) else if ¬ d.length < 60 then .error (2, n.1.at_) else
  (nextT e n.2).bind fun kd => (kindP e n.1.text kd).bind fun f => (wordT e [59] f.2).bind fun z => .ok (f.1, z.2)
theorem bind_error {ε α β : Type} {x : Except ε α} {z : ε} (h : x = .error z) (f : α → Except ε β) : x.bind f = .error z := by rw [h]; rfl
theorem range_bnd {e : Nat} {name : T} {k : Int} {l : List Tok} (hg : Goods l) : range e name k l = (bnd e name k l).bind fun f => (wordT e [59] f.2).bind fun z => .ok (f.1, z.2) := by
  unfold range bnd
  cases h1 : want 2 [] e l with
  | error z => rfl
  | ok lo =>
    rw [bind_is rfl, bind_is rfl]
    have g1 := hg.want h1
    by_cases c1 : 1000000 < lo.1.n
    · rw [if_pos c1, if_pos c1]; rfl
    · rw [if_neg c1, if_neg c1]
      refine Eq.trans (want_told (α := Fact × List Tok) (x := wTo) (told_name (c := 116) (r := [111]) rfl) g1 (fun l2 => (want 2 [] e l2).bind fun hi => if 1000000 < hi.1.n ∨ hi.1.n < lo.1.n then .error (10, hi.1.at_) else (want 3 [59] e hi.2).bind fun z => .ok (⟨name, k, lo.1.n, hi.1.n⟩, z.2))) ?_
      cases h2 : wordT e wTo lo.2 with
      | error z => rfl
      | ok tq =>
        rw [bind_is rfl, bind_is rfl]
        have g2 : Goods tq.2 := by
          cases hl : lo.2 with
          | nil => rw [hl] at h2; cases h2
          | cons u r =>
            rw [hl] at h2 g1
            have h2 : (if u.text = wTo then Except.ok ((), r) else Except.error (5, u.at_) : Except (Nat × Nat) (Unit × List Tok)) = .ok tq := h2
            by_cases c : u.text = wTo
            · rw [if_pos c] at h2
              obtain rfl := Except.ok.inj h2
              exact g1.tail
            · rw [if_neg c] at h2; cases h2
        cases h3 : want 2 [] e tq.2 with
        | error z => rfl
        | ok hi =>
          rw [bind_is rfl, bind_is rfl]
          have g3 := g2.want h3
          by_cases c2 : 1000000 < hi.1.n ∨ hi.1.n < lo.1.n
          · rw [if_pos c2, if_pos c2]; rfl
          · rw [if_neg c2, if_neg c2, bind_is rfl]
            exact want_told (α := Fact × List Tok) (told_sym (c := 59) rfl) g3 (fun r => .ok ((⟨name, k, lo.1.n, hi.1.n⟩ : Fact), r))
theorem factP_eq {e : Nat} {d : List Fact} {l : List Tok} (hg : Goods l) (hd : d.length ≤ 60) : fact1 e d l = factP e d l := by
  unfold fact1 factP
  cases h1 : want 1 [] e l with
  | error z => rfl
  | ok n =>
    rw [bind_is rfl, bind_is rfl]
    have g1 := hg.want h1
    have hidx : n.1.text ∈ d.map (·.name) ↔ 0 ≤ idx d n.1.text := by
      cases hi : index d n.1.text with
      | none =>
        rw [idx_none hi]
        have := index_none_iff.1 hi
        constructor
        · intro h; exact absurd h this
        · intro h; omega
      | some i =>
        rw [idx_some hi]
        constructor
        · intro _; omega
        · intro _
          obtain ⟨f, hf, hn, _⟩ := index_some_iff.1 hi
          rw [← hn]
          exact List.mem_map.2 ⟨f, List.mem_of_getElem? hf, rfl⟩
    by_cases c1 : 0 ≤ idx d n.1.text
    · rw [if_pos (hidx.2 c1), if_pos c1]
    · rw [if_neg (fun h => c1 (hidx.1 h)), if_neg c1]
      by_cases c2 : d.length = 60
      · have c2' : ¬ d.length < 60 := by omega
        rw [if_pos c2, if_pos c2']
      · have c2' : ¬ ¬ d.length < 60 := by omega
        rw [if_neg c2, if_neg c2']
        cases hl : n.2 with
        | nil => rfl
        | cons k l2 =>
          rw [hl] at g1
          have gk := g1 k (by simp)
          have tF : Told 1 wFlag := told_name (c := 102) rfl
          have tN : Told 1 wNumber := told_name (c := 110) rfl
          have tD : Told 1 wDay := told_name (c := 100) rfl
          rw [sees_told tF gk]
          show _ = (kindP e n.1.text (k, l2)).bind _
          unfold kindP
          by_cases c3 : k.text = wFlag
          · rw [decide_eq_true c3, if_pos rfl, if_pos c3, bind_is rfl]
            exact want_told (α := Fact × List Tok) (told_sym (c := 59) rfl) g1.tail (fun r => .ok ((⟨n.1.text, 1, 0, 1⟩ : Fact), r))
          · rw [decide_eq_false c3, if_neg (by decide), if_neg c3]
            unfold kindOf
            rw [sees_told tD gk]
            by_cases c4 : k.text = wDay
            · have : k.text ≠ wNumber := by rw [c4]; decide
              rw [decide_eq_true c4, if_pos rfl, bind_is rfl, if_neg this, if_pos c4]
              exact range_bnd g1.tail
            · rw [decide_eq_false c4, if_neg (by decide)]
              by_cases c5 : k.text = wNumber
              · rw [if_pos c5]
                have : want 1 wNumber e (k :: l2) = .ok (k, l2) := by
                  show (if sees 1 wNumber (k :: l2) = true then _ else _) = _
                  rw [sees_told tN gk, decide_eq_true c5]; rfl
                rw [this]
                exact range_bnd g1.tail
              · rw [if_neg c5, if_neg c4]
                have : want 1 wNumber e (k :: l2) = .error (5, k.at_) := by
                  show (if sees 1 wNumber (k :: l2) = true then _ else _) = _
                  rw [sees_told tN gk, decide_eq_false c5]; rfl
                rw [this]
                rfl
/-! ### The loop -/
/-- What is read from here on. -/
def rest (e : Nat) (d : List Fact) (l : List Tok) : Except (Nat × Nat) (List Fact) := parseF e l.length d l
theorem parseF_more {e : Nat} : ∀ (m : Nat) (d : List Fact) (l : List Tok), l.length ≤ m → Goods l → parseF e m d l = parseF e l.length d l
  | 0, d, l, h, _ => by
    have : l = [] := List.length_eq_zero_iff.1 (by omega)
    subst this; rfl
  | m + 1, d, [], _, _ => rfl
  | m + 1, d, t :: r, h, hg => by
    rw [List.length_cons, parseF, parseF]
    cases hf : fact1 e d (t :: r) with
    | error z => rfl
    | ok y =>
      rw [bind_is rfl, bind_is rfl]
      obtain ⟨_, _, _, u, hu, hne⟩ := fact1_ok (f := y.1) (r := y.2) hg hf
      have hlen : y.2.length ≤ r.length := by
        have := congrArg List.length hu
        rw [List.length_cons, List.length_append] at this
        have : 0 < u.length := List.length_pos_iff.2 hne
        omega
      have gy : Goods y.2 := fun t2 ht => hg t2 (by rw [hu]; exact List.mem_append_right _ ht)
      rw [List.length_cons] at h
      rw [parseF_more m _ y.2 (by omega) gy, parseF_more r.length _ y.2 hlen gy]
theorem rest_nil (e : Nat) (d : List Fact) : rest e d [] = .ok d := rfl
theorem rest_step {e : Nat} {d : List Fact} {t : Tok} {r : List Tok} (hg : Goods (t :: r)) (hd : d.length ≤ 60) : rest e d (t :: r) = (factP e d (t :: r)).bind fun f => rest e (d ++ [f.1]) f.2 := by
  rw [← factP_eq hg hd]
  show parseF e (r.length + 1) d (t :: r) = _
  rw [parseF]
  cases hf : fact1 e d (t :: r) with
  | error z => rfl
  | ok y =>
    rw [bind_is rfl, bind_is rfl]
    obtain ⟨_, _, _, u, hu, hne⟩ := fact1_ok (f := y.1) (r := y.2) hg hf
    have hlen : y.2.length ≤ r.length := by
      have := congrArg List.length hu
      rw [List.length_cons, List.length_append] at this
      have : 0 < u.length := List.length_pos_iff.2 hne
      omega
    exact parseF_more r.length _ y.2 hlen (fun t2 ht => hg t2 (by rw [hu]; exact List.mem_append_right _ ht))
/-- What is left behind a fact. -/
theorem factP_ok {e : Nat} {d : List Fact} {l : List Tok} {f : Fact} {r : List Tok} (hg : Goods l) (hv : Valid d) (h : factP e d l = .ok (f, r)) : Valid (d ++ [f]) ∧ Goods r ∧ r.length < l.length := by
  rw [← factP_eq hg hv.2.2] at h
  obtain ⟨h1, h2, h3, u, hu, hne⟩ := fact1_ok hg h
  refine ⟨hv.snoc h1 h2 h3, fun t ht => hg t (by rw [hu]; exact List.mem_append_right _ ht), ?_⟩
  have : 0 < u.length := List.length_pos_iff.2 hne
  rw [hu, List.length_append]; omega
theorem Valid.sized {d : List Fact} (h : Valid d) : ∀ f ∈ d, Sized f := by
  intro f hf
  have ok := h.1 f hf
  obtain ⟨c, r, e, _, _, h4⟩ := (good1 f.name).1 ok.name
  refine ⟨by rw [e]; omega, ?_, ?_, ?_⟩
  · rcases ok.kind with k | k | k <;> omega
  · have := ok.low; have := ok.le; have := ok.high; omega
  · have := ok.low; have := ok.le; have := ok.high; omega
end Fc
end Go.Proofs.YtoamkanofhhjfaaGreatDoor
/-
  Reading a case in the order in which the reader asks, in arithmetic; it is the same.
-/
namespace Go.Proofs.YtoamkanofhhjfaaGreatDoor
namespace Fc
open Lx

/-- The value that is given for a name. -/
def gopt (d : List Fact) (v : List (Option Int)) (x : T) : Option Int := (index d x).bind fun i => v.getD i none
theorem gopt_set {d : List Fact} {v : List (Option Int)} {i : Nat} {f : Fact} (hi : index d f.name = some i) (hl : i < v.length) (y : Int) (x : T) : gopt d (v.set i (some y)) x = if x = f.name then some y else gopt d v x := by
  unfold gopt
  by_cases h : x = f.name
  · rw [if_pos h, h, hi]
    show (v.set i (some y)).getD i none = some y
    rw [List.getD_eq_getElem?_getD, List.getElem?_set_self hl]; rfl
  · rw [if_neg h]
    cases hj : index d x with
    | none => rfl
    | some j =>
      show (v.set i (some y)).getD j none = v.getD j none
      have hne : i ≠ j := by
        rintro rfl
        obtain ⟨g, hg, hgx, _⟩ := index_some_iff.1 hj
        obtain ⟨g2, hg2, hgn, _⟩ := index_some_iff.1 hi
        rw [hg] at hg2
        rw [← Option.some.inj hg2] at hgn
        exact h (hgx.symm.trans hgn)
      rw [List.getD_eq_getElem?_getD, List.getElem?_set_ne hne, ← List.getD_eq_getElem?_getD]
/-- The number behind the sign of equality. -/
def numP (e : Nat) (f : Fact) (i : Nat) (v : List (Option Int)) (l : List Tok) : Except (Nat × Nat) (List (Option Int) × List Tok) :=
  (wordT e [61] l).bind fun q => (want 2 [] e q.2).bind fun x =>
  if f.lo ≤ (x.1.n : Int) ∧ (x.1.n : Int) ≤ f.hi then .ok (v.set i (some (x.1.n : Int)), x.2) else .error (10, x.1.at_)
/-- One value, as the reader asks. -/
def valueP (e : Nat) (d : List Fact) (v : List (Option Int)) (l : List Tok) : Except (Nat × Nat) (List (Option Int) × List Tok) :=
  (want 1 [] e l).bind fun n =>
  match index d n.1.text with
  | none => .error (7, n.1.at_)
  | some i => if (gopt d v n.1.text).isSome then .error (9, n.1.at_) else numP e (d.getD i ⟨[], 0, 0, 0⟩) i v n.2
theorem value1_eq {e : Nat} {d : List Fact} {first : Bool} {v : List (Option Int)} {l : List Tok} (hg : Goods l) : value1 e d first v l = if first then valueP e d v l else (wordT e [44] l).bind fun z => valueP e d v z.2 := by
  have key : ∀ l2, Goods l2 → ((want 1 [] e l2).bind fun n => match index d n.1.text with | none => .error (7, n.1.at_) | some i => valueAt e d v n.1.at_ n.2 i : Except (Nat × Nat) (List (Option Int) × List Tok)) = valueP e d v l2 := by
    intro l2 hg2
    unfold valueP
    cases h1 : want 1 [] e l2 with
    | error z => rfl
    | ok n =>
      rw [bind_is rfl, bind_is rfl]
      have g1 := hg2.want h1
      cases hi : index d n.1.text with
      | none => rfl
      | some i =>
        obtain ⟨f, hf, _⟩ := index_some_iff.1 hi
        have hd : d.getD i ⟨[], 0, 0, 0⟩ = f := by rw [List.getD_eq_getElem?_getD, hf]; rfl
        have hgo : gopt d v n.1.text = v.getD i none := by unfold gopt; rw [hi]; rfl
        dsimp only
        rw [hgo, hd]
        unfold valueAt
        by_cases c : (v.getD i none).isSome = true
        · rw [if_pos c, if_pos c]
        · rw [if_neg c, if_neg c]
          unfold numP
          refine Eq.trans (want_told (α := List (Option Int) × List Tok) (x := [61]) (told_sym (c := 61) rfl) g1 (fun r => (want 2 [] e r).bind fun x => match d[i]? with
            | none => .error (7, n.1.at_)
            | some f => if f.lo ≤ x.1.n ∧ (x.1.n : Int) ≤ f.hi then .ok (v.set i (some (x.1.n : Int)), x.2) else .error (10, x.1.at_))) ?_
          rw [hf]
  unfold value1
  cases first with
  | true =>
    rw [if_pos rfl]
    exact key l hg
  | false =>
    rw [if_neg (by decide)]
    show ((want 3 [44] e l).bind fun z => .ok ((), z.2)).bind _ = _
    cases l with
    | nil => rfl
    | cons t r =>
      have hw : want 3 [44] e (t :: r) = if t.text = [44] then .ok (t, r) else .error (5, t.at_) := by
        show (if sees 3 [44] (t :: r) = true then _ else _) = _
        rw [sees_told (told_sym (c := 44) rfl) (hg t (by simp))]
        by_cases h : t.text = [44]
        · rw [decide_eq_true h, if_pos rfl, if_pos h]
        · rw [decide_eq_false h, if_neg (by decide), if_neg h]
      rw [hw]
      show _ = ((if t.text = [44] then Except.ok ((), r) else Except.error (5, t.at_) : Except (Nat × Nat) (Unit × List Tok))).bind _
      by_cases h : t.text = [44]
      · rw [if_pos h, if_pos h]
        exact key r hg.tail
      · rw [if_neg h, if_neg h]; rfl
/-- What a value leaves. -/
theorem valueP_ok {e : Nat} {d : List Fact} {v : List (Option Int)} {l : List Tok} {y : List (Option Int) × List Tok} (hg : Goods l) (h : valueP e d v l = .ok y) : Goods y.2 ∧ y.2.length < l.length ∧ y.1.length = v.length := by
  unfold valueP at h
  obtain ⟨n, h1, h⟩ := bind_ok h
  obtain ⟨e1, _⟩ := want_ok h1
  have g1 := hg.want h1
  cases hi : index d n.1.text with
  | none => rw [hi] at h; cases h
  | some i =>
    rw [hi] at h
    dsimp only at h
    by_cases c : (gopt d v n.1.text).isSome = true
    · rw [if_pos c] at h; cases h
    rw [if_neg c] at h
    unfold numP at h
    obtain ⟨q, h2, h⟩ := bind_ok h
    have hq : n.2 = (n.2.headD ⟨0, [], 0, 0⟩) :: q.2 := by
      cases hl : n.2 with
      | nil => rw [hl] at h2; cases h2
      | cons u r =>
        rw [hl] at h2
        have h2 : (if u.text = [61] then Except.ok ((), r) else Except.error (5, u.at_) : Except (Nat × Nat) (Unit × List Tok)) = .ok q := h2
        by_cases c : u.text = [61]
        · rw [if_pos c] at h2
          obtain rfl := Except.ok.inj h2
          rfl
        · rw [if_neg c] at h2; cases h2
    have g2 : Goods q.2 := by rw [hq] at g1; exact g1.tail
    obtain ⟨x, h3, h⟩ := bind_ok h
    obtain ⟨e3, _⟩ := want_ok h3
    have g3 := g2.want h3
    by_cases c2 : (d.getD i ⟨[], 0, 0, 0⟩).lo ≤ (x.1.n : Int) ∧ (x.1.n : Int) ≤ (d.getD i ⟨[], 0, 0, 0⟩).hi
    · rw [if_pos c2] at h
      obtain rfl := Except.ok.inj h
      refine ⟨g3, ?_, List.length_set⟩
      have l1 := congrArg List.length e1
      have l2 := congrArg List.length hq
      have l3 := congrArg List.length e3
      rw [List.length_cons] at l1 l2 l3
      show x.2.length < _
      omega
    · rw [if_neg c2] at h; cases h
theorem value1_ok {e : Nat} {d : List Fact} {first : Bool} {v : List (Option Int)} {l : List Tok} {y : List (Option Int) × List Tok} (hg : Goods l) (h : value1 e d first v l = .ok y) : Goods y.2 ∧ y.2.length < l.length ∧ y.1.length = v.length := by
  rw [value1_eq hg] at h
  cases first with
  | true => exact valueP_ok hg h
  | false =>
    have h : (wordT e [44] l).bind (fun z => valueP e d v z.2) = .ok y := h
    obtain ⟨z, h1, h2⟩ := bind_ok h
    cases l with
    | nil => cases h1
    | cons u r =>
      have h1 : (if u.text = [44] then Except.ok ((), r) else Except.error (5, u.at_) : Except (Nat × Nat) (Unit × List Tok)) = .ok z := h1
      by_cases c : u.text = [44]
      · rw [if_pos c] at h1
        obtain rfl := Except.ok.inj h1
        obtain ⟨a, b, c⟩ := valueP_ok hg.tail h2
        exact ⟨a, by rw [List.length_cons]; omega, c⟩
      · rw [if_neg c] at h1; cases h1
theorem valuesF_more {e : Nat} {d : List Fact} : ∀ (m : Nat) (first : Bool) (v : List (Option Int)) (l : List Tok), l.length ≤ m → Goods l → valuesF e d m first v l = valuesF e d l.length first v l
  | 0, first, v, l, h, _ => by
    have : l = [] := List.length_eq_zero_iff.1 (by omega)
    subst this; rfl
  | m + 1, first, v, [], _, _ => rfl
  | m + 1, first, v, t :: r, h, hg => by
    rw [List.length_cons, valuesF, valuesF]
    cases hf : value1 e d first v (t :: r) with
    | error z => rfl
    | ok y =>
      rw [bind_is rfl, bind_is rfl]
      obtain ⟨gy, hlen, _⟩ := value1_ok hg hf
      rw [List.length_cons] at h hlen
      rw [valuesF_more m _ _ y.2 (by omega) gy, valuesF_more r.length _ _ y.2 (by omega) gy]
/-- What is read from here on. -/
def restV (e : Nat) (d : List Fact) (first : Bool) (v : List (Option Int)) (l : List Tok) : Except (Nat × Nat) (List (Option Int)) := valuesF e d l.length first v l
theorem restV_nil (e : Nat) (d : List Fact) (first : Bool) (v : List (Option Int)) : restV e d first v [] = .ok v := rfl
theorem restV_step {e : Nat} {d : List Fact} {first : Bool} {v : List (Option Int)} {t : Tok} {r : List Tok} (hg : Goods (t :: r)) :
    restV e d first v (t :: r) = (value1 e d first v (t :: r)).bind fun x => restV e d false x.1 x.2 := by
  show valuesF e d (r.length + 1) first v (t :: r) = _
  rw [valuesF]
  cases hf : value1 e d first v (t :: r) with
  | error z => rfl
  | ok y =>
    rw [bind_is rfl, bind_is rfl]
    obtain ⟨gy, hlen, _⟩ := value1_ok hg hf
    rw [List.length_cons] at hlen
    exact valuesF_more r.length _ _ y.2 (by omega) gy
theorem restV_first {e : Nat} {d : List Fact} {v : List (Option Int)} {t : Tok} {r : List Tok} (hg : Goods (t :: r)) : restV e d true v (t :: r) = (valueP e d v (t :: r)).bind fun x => restV e d false x.1 x.2 := by
  rw [restV_step hg, value1_eq hg]; rfl
theorem restV_more {e : Nat} {d : List Fact} {v : List (Option Int)} {t : Tok} {r : List Tok} (hg : Goods (t :: r)) : restV e d false v (t :: r) = (wordT e [44] (t :: r)).bind fun z => (valueP e d v z.2).bind fun x => restV e d false x.1 x.2 := by
  rw [restV_step hg, value1_eq hg, if_neg (by decide)]
  cases wordT e [44] (t :: r) with
  | error z => rfl
  | ok z => rfl
/-- What a case is made of. -/
def doneV (e : Nat) (v : List (Option Int)) : Except (Nat × Nat) (List Int) := if v.all Option.isSome then .ok (v.map fun o => o.getD 0) else .error (11, e)
theorem parseCase_eq (e : Nat) (d : List Fact) (l : List Tok) : parseCase e d l = (restV e d true (d.map fun _ => none) l).bind (doneV e) := rfl
end Fc
end Go.Proofs.YtoamkanofhhjfaaGreatDoor
/-
  The map of the values that are given.
-/
namespace Go.Proofs.YtoamkanofhhjfaaGreatDoor
open Go.RowKit Go.Maps

namespace Fc
open Lx
/-- Block b is the map of the values that are given, with at most n entries. -/
def IsG (d : List Fact) (v : List (Option Int)) (n : Nat) (w : World) (b : Nat) : Prop :=
  ∃ D : DataW Unit, w.ownsMap Tryz.prog 9 (plainElem Tryz.prog 3) b n D ∧ ∀ x : T, D.atKey (.string x) (.lit (.int .i64 0)) = .lit (.int .i64 ((gopt d v x).getD 0)) ∧ Maps.has D (.string x) = (gopt d v x).isSome
theorem IsG.lt {d : List Fact} {v : List (Option Int)} {n b : Nat} {w : World} (h : IsG d v n w b) : b < w.heap.size := by obtain ⟨D, h, _⟩ := h; exact h.lt
theorem IsG.block {d : List Fact} {v : List (Option Int)} {n b : Nat} {w w' : World} (h : IsG d v n w b) (hb : w'.heap[b]? = w.heap[b]?) : IsG d v n w' b := by
  obtain ⟨D, h1, h2⟩ := h; exact ⟨D, ownsMap_block h1 hb, h2⟩
theorem gopt_none (d : List Fact) (x : T) : gopt d (d.map fun _ => none) x = none := by
  unfold gopt
  cases index d x with
  | none => rfl
  | some i =>
    show (d.map fun _ => none).getD i none = none
    rw [List.getD_eq_getElem?_getD, List.getElem?_map]
    cases d[i]? <;> rfl
theorem IsG.made (d : List Fact) (w : World) : IsG d (d.map fun _ => none) 0 (w.alloc (.map #[] 0)) w.heap.size :=
  ⟨.map [], World.ownsMap_made _ _ _ _, fun x => by rw [gopt_none]; exact ⟨rfl, rfl⟩⟩
end Fc
theorem zeroInt (w : World) : (zeroValue 3).run Tryz.prog w = .ok (.int .i64 0) w := by kernel_rfl
theorem Fc.IsG.look {d : List Fc.Fact} {v : List (Option Int)} {n b : Nat} {w : World} (h : Fc.IsG d v n w b) (u : ByteArray) (hu : u.size ≤ maxLen) :
    (Instr.lookup 102 (.map (some b)) (.string u) true).run Tryz.prog w = .ok (.tuple #[.int .i64 ((Fc.gopt d v (Lx.tx u)).getD 0), .bool (Fc.gopt d v (Lx.tx u)).isSome]) w := by
  obtain ⟨D, h1, h2⟩ := h
  obtain ⟨y, ps, hrun, hv⟩ := h1.look_ok strKeyed Tryz.underlying102 (zeroInt w) (plainElem_int Tryz.underlying3 (by decide)) (Go.WideMaps.keyOf_string_mk Tryz.underlying9 hu)
  obtain ⟨q1, q2⟩ := h2 (Lx.tx u)
  have q1 : D.atKey (.string u.data.toList) (.lit (.int .i64 0)) = .lit (.int .i64 ((Fc.gopt d v (Lx.tx u)).getD 0)) := q1
  have q2 : Maps.has D (.string u.data.toList) = (Fc.gopt d v (Lx.tx u)).isSome := q2
  rw [q1] at hv
  rw [q2] at hrun
  obtain ⟨a, rfl, ha, _⟩ := plainElem_int_inv Tryz.underlying3 hv
  have ha : (Fc.gopt d v (Lx.tx u)).getD 0 = a := by
    have := congrArg Prod.fst ha
    simpa using this
  rw [hrun, ha]
theorem Fc.IsG.put {d : List Fc.Fact} {v : List (Option Int)} {n b i : Nat} {f : Fc.Fact} {w : World} (h : Fc.IsG d v n w b) (hn : n < maxLen) (hi : Fc.index d f.name = some i) (hl : i < v.length) (u : ByteArray) (hu : u.size ≤ maxLen) (hx : Lx.tx u = f.name) (y : Int) (hy : -9223372036854775808 ≤ y ∧ y ≤ 9223372036854775807) :
    ∃ w', (Instr.mapUpdate 102 (.map (some b)) (.string u) (.int .i64 y)).run Tryz.prog w = .ok () w' ∧ Fc.IsG d (v.set i (some y)) (n + 1) w' b ∧ w.grownBy w' (some b) := by
  obtain ⟨D, h1, h2⟩ := h
  obtain ⟨w', hrun, hown, hg⟩ := h1.update strKeyed Tryz.underlying102 hn (Go.WideMaps.keyOf_string_mk Tryz.underlying9 hu) (plainElem_int Tryz.underlying3 (WalkArith.wf_i64 hy))
  refine ⟨w', hrun, ⟨_, hown, fun x => ?_⟩, hg⟩
  rw [Fc.gopt_set hi hl]
  have hk : WideAt.IsKeyLit (.string u.data.toList) := trivial
  by_cases e : x = f.name
  · have e2 : x = u.data.toList := e.trans hx.symm
    rw [if_pos e, e2, Maps.atKey_put_same h1.isMap hk, Maps.has_put_same h1.isMap hk]
    exact ⟨rfl, rfl⟩
  · have e2 : Lit.string x ≠ .string u.data.toList := fun h => e ((Lit.string.inj h).trans hx)
    rw [if_neg e, Maps.atKey_put_other e2, Maps.has_put_other e2]
    exact h2 x
end Go.Proofs.YtoamkanofhhjfaaGreatDoor
