import Derived.Test.YtoamkanofhhjfaaGreatDoorKFOrder
import Derived.Test.YtoamkanofhhjfaaGreatDoorKFHeadA
import Derived.Test.YtoamkanofhhjfaaGreatDoorKFHead
import Derived.Test.YtoamkanofhhjfaaGreatDoorKFSame
/-
  Errors of readings in arithmetic: they are no OK, and their offsets lie within the text (P6.2, P6.3).
-/
namespace Go.Proofs.YtoamkanofhhjfaaGreatDoor.Fc
open Lx

/-- What holds of a reading that is fine, or an error within the text. -/
def Bd {α : Type} (e : Nat) (P : α → Prop) : Except (Nat × Nat) α → Prop
  | .ok a => P a
  | .error z => z.1 ≠ 0 ∧ z.2 ≤ e
theorem Bd.bind {α β : Type} {e : Nat} {P : α → Prop} {Q : β → Prop} {x : Except (Nat × Nat) α} (h : Bd e P x) {f : α → Except (Nat × Nat) β} (hf : ∀ a, P a → Bd e Q (f a)) : Bd e Q (x.bind f) := by
  cases x with
  | ok a => exact hf a h
  | error z => exact h
/-- The offsets of all tokens lie within the text. -/
def Nr (e : Nat) (l : List Tok) : Prop := ∀ t ∈ l, t.at_ ≤ e
theorem Nr.drop {e : Nat} {l : List Tok} (h : Nr e l) (k : Nat) : Nr e (l.drop k) := fun t ht => h t (List.mem_of_mem_drop ht)
theorem want_bd {k : Nat} {x : T} {e : Nat} {l : List Tok} (h : Nr e l) : Bd e (fun y => y.1.at_ ≤ e ∧ Nr e y.2) (want k x e l) := by
  cases l with
  | nil => exact ⟨by show 6 ≠ 0; decide, Nat.le_refl _⟩
  | cons t r =>
    show Bd e _ (if sees k x (t :: r) = true then Except.ok (t, r) else Except.error (5, t.at_))
    split
    · exact ⟨h t (by simp), fun u hu => h u (by simp [hu])⟩
    · exact ⟨by show 5 ≠ 0; decide, h t (by simp)⟩
theorem kind_bd {e : Nat} {l : List Tok} (h : Nr e l) : Bd e (fun y => Nr e y.2) (kindOf e l) := by
  unfold kindOf
  split
  · exact h.drop 1
  · exact (want_bd h).bind fun a ha => ha.2
theorem range_bd {e : Nat} {name : T} {k : Int} {l : List Tok} (h : Nr e l) : Bd e (fun y => Nr e y.2) (range e name k l) := by
  unfold range
  refine (want_bd h).bind fun lo hlo => ?_
  split
  · exact ⟨by show 10 ≠ 0; decide, hlo.1⟩
  · refine (want_bd hlo.2).bind fun tk hto => (want_bd hto.2).bind fun hi hhi => ?_
    split
    · exact ⟨by show 10 ≠ 0; decide, hhi.1⟩
    · exact (want_bd hhi.2).bind fun z hz => hz.2
theorem fact1_bd {e : Nat} {d : List Fact} {l : List Tok} (h : Nr e l) : Bd e (fun y => Nr e y.2) (fact1 e d l) := by
  unfold fact1
  refine (want_bd h).bind fun n hn => ?_
  split
  · exact ⟨by show 9 ≠ 0; decide, hn.1⟩
  · split
    · exact ⟨by show 2 ≠ 0; decide, hn.1⟩
    · split
      · exact (want_bd (hn.2.drop 1)).bind fun z hz => hz.2
      · exact (kind_bd hn.2).bind fun k hk => range_bd hk
theorem parseF_bd {e : Nat} : ∀ (m : Nat) {d : List Fact} {l : List Tok}, Nr e l → Bd e (fun _ => True) (parseF e m d l)
  | 0, _, _, _ => trivial
  | m + 1, d, l, h => by
    cases l with
    | nil => exact trivial
    | cons t r => exact (fact1_bd h).bind fun f hf => parseF_bd m hf
theorem parse_bd {e : Nat} {l : List Tok} (h : Nr e l) : Bd e (fun _ => True) (parse e l) := parseF_bd _ h

theorem comma_bd {e : Nat} {first : Bool} {l : List Tok} (h : Nr e l) : Bd e (fun y => Nr e y.2) (comma e first l) := by
  unfold comma
  split
  · exact h
  · exact (want_bd h).bind fun z hz => hz.2
theorem valueAt_bd {e : Nat} {d : List Fact} {v : List (Option Int)} {a : Nat} {l : List Tok} {i : Nat} (h : Nr e l) (ha : a ≤ e) : Bd e (fun y => Nr e y.2) (valueAt e d v a l i) := by
  unfold valueAt
  split
  · exact ⟨by show 9 ≠ 0; decide, ha⟩
  · refine (want_bd h).bind fun q hq => (want_bd hq.2).bind fun x hx => ?_
    cases d[i]? with
    | none => exact ⟨by show 7 ≠ 0; decide, ha⟩
    | some f =>
      dsimp only
      split
      · exact hx.2
      · exact ⟨by show 10 ≠ 0; decide, hx.1⟩
theorem value1_bd {e : Nat} {d : List Fact} {first : Bool} {v : List (Option Int)} {l : List Tok} (h : Nr e l) : Bd e (fun y => Nr e y.2) (value1 e d first v l) := by
  unfold value1
  refine (comma_bd h).bind fun z hz => (want_bd hz).bind fun n hn => ?_
  cases index d n.1.text with
  | none => exact ⟨by show 7 ≠ 0; decide, hn.1⟩
  | some i => exact valueAt_bd hn.2 hn.1
theorem valuesF_bd {e : Nat} {d : List Fact} : ∀ (m : Nat) {first : Bool} {v : List (Option Int)} {l : List Tok}, Nr e l → Bd e (fun _ => True) (valuesF e d m first v l)
  | 0, _, _, _, _ => trivial
  | m + 1, first, v, l, h => by
    cases l with
    | nil => exact trivial
    | cons t r => exact (value1_bd h).bind fun f hf => valuesF_bd m hf
theorem parseCase_bd {e : Nat} {d : List Fact} {l : List Tok} (h : Nr e l) : Bd e (fun _ => True) (parseCase e d l) := by
  unfold parseCase
  refine (valuesF_bd _ h).bind fun v _ => ?_
  split
  · exact trivial
  · exact ⟨by show 11 ≠ 0; decide, Nat.le_refl _⟩

theorem places_near : ∀ (l : List Tok) {s : T} {a : Nat}, Places s a l → Nr (a + s.length) l
  | [], _, _, _ => by intro t ht; cases ht
  | u :: l, s, a, h => by
    obtain ⟨p, x, hs, ha, _, _, hr⟩ := h
    have := places_near l hr
    have hl : s.length = p.length + (u.text.length + x.length) := by rw [hs]; simp
    intro t ht
    rcases List.mem_cons.1 ht with rfl | ht
    · omega
    · have := this t ht; omega
/-- The errors of full, for texts that are not long. -/
theorem full_err {s : T} (h : s.length ≤ 5000) : ((full s).2.1 ≠ 0 ∧ (full s).2.2 ≤ (s.length : Int)) ∨ ((full s).2.1 = 0 ∧ full s = ((lex s 0).1, 0, 0) ∧ Nr s.length (full s).1) := by
  rw [full_small h]
  cases hx : (lex s 0).2 with
  | none =>
    right
    have := places_near _ (lex_places s.length s (Nat.le_refl _) 0 hx)
    rw [Nat.zero_add] at this
    exact ⟨rfl, rfl, this⟩
  | some z =>
    left
    obtain ⟨h1, h2, h3⟩ := lex_errAt s.length s (Nat.le_refl _) 0 z hx
    obtain ⟨e, a⟩ := z
    dsimp only at h1 h2 h3 ⊢
    exact ⟨by omega, by omega⟩
theorem parseT_err {s : T} (h : s.length ≤ 5000) {z : Nat × Int} (hz : parseT s = .error z) : z.1 ≠ 0 ∧ z.2 ≤ (s.length : Int) := by
  unfold parseT at hz
  rcases full_err h with ⟨h1, h2⟩ | ⟨h1, _, h2⟩
  · rw [if_neg h1] at hz
    obtain rfl := Except.error.inj hz
    exact ⟨h1, h2⟩
  · rw [if_pos h1] at hz
    have := parse_bd (l := (full s).1) h2
    cases hp : parse s.length (full s).1 with
    | ok d => rw [hp] at hz; cases hz
    | error y =>
      rw [hp] at hz this
      obtain rfl := Except.error.inj hz
      exact ⟨this.1, Int.ofNat_le.2 this.2⟩
theorem caseT_err {d : List Fact} {s : T} (h : s.length ≤ 5000) {z : Nat × Int} (hz : caseT d s = .error z) : z.1 ≠ 0 ∧ z.2 ≤ (s.length : Int) := by
  unfold caseT at hz
  rcases full_err h with ⟨h1, h2⟩ | ⟨h1, _, h2⟩
  · rw [if_neg h1] at hz
    obtain rfl := Except.error.inj hz
    exact ⟨h1, h2⟩
  · rw [if_pos h1] at hz
    have := parseCase_bd (d := d) (l := (full s).1) h2
    cases hp : parseCase s.length d (full s).1 with
    | ok c => rw [hp] at hz; cases hz
    | error y =>
      rw [hp] at hz this
      obtain rfl := Except.error.inj hz
      exact ⟨this.1, Int.ofNat_le.2 this.2⟩

theorem fwords_count (p : T) (f : Fact) : (fwords p f).length ≤ 6 := by
  unfold fwords
  split <;> simp
theorem dwords_count : ∀ (d : List Fact) (p : T), (dwords p d).length ≤ 6 * d.length
  | [], _ => by simp [dwords]
  | f :: d, p => by
    have h1 := dwords_count d [10]
    have h2 := fwords_count p f
    rw [dwords, List.length_append, List.length_cons]
    omega
theorem rwords_count : ∀ (d : List Fact) (c : List Int), (rwords d c).length ≤ 4 * d.length
  | [], _ => by simp [rwords]
  | _ :: _, [] => by simp [rwords]
  | f :: d, x :: c => by
    have h1 := rwords_count d c
    rw [rwords, List.length_cons, List.length_append, List.length_cons]
    simp only [vwords, List.length_cons, List.length_nil]
    omega
theorem cwords_count (d : List Fact) (c : List Int) : (cwords d c).length ≤ 4 * d.length := by
  cases d with
  | nil => simp [cwords]
  | cons f d =>
    cases c with
    | nil => simp [cwords]
    | cons x c =>
      have h1 := rwords_count d c
      rw [cwords, List.length_append, List.length_cons]
      simp only [vwords, List.length_cons, List.length_nil]
      omega
/-- What full is of a text that isn't long and has few tokens and no error. -/
theorem full_of {s : T} {l : List Tok} (hs : s.length ≤ 20000) (hl : lex s 0 = (l, none)) (hn : l.length ≤ 5000) : full s = (l, 0, 0) := by
  unfold full
  rw [if_neg (by omega), hl]
  dsimp only
  rw [if_neg (by omega)]
/-- A domain's text is read as the domain; a case's as the case. -/
theorem parseT_text {d : List Fact} (h : Valid d) (hl : (dtext d).length ≤ 20000) : parseT (dtext d) = .ok d := by
  have hx := lex_dom h.1 0
  have hn := dwords_count d []
  have hf := full_of hl hx (by rw [spelt_len]; have := h.2.2; omega)
  have hp := parse_text h (dtext d).length 0
  rw [hx] at hp
  unfold parseT
  rw [hf, if_pos rfl]
  dsimp only at hp ⊢
  rw [hp]
  rfl
theorem range_get {α : Type} (l : List α) : (List.range l.length).filterMap (l[·]?) = l := by
  have : ∀ k, k ≤ l.length → (List.range k).filterMap (l[·]?) = l.take k := by
    intro k
    induction k with
    | zero => intro _; simp
    | succ k ih =>
      intro hk
      rw [List.range_succ, List.filterMap_append, ih (by omega), List.take_add_one, List.getElem?_eq_getElem (by omega)]
      simp [List.getElem?_eq_getElem (by omega : k < l.length)]
  rw [this _ (Nat.le_refl _), List.take_length]
theorem case_small {d : List Fact} {c : List Int} (hv : Valid d) (hw : within d c = true) : ∀ x ∈ c, 0 ≤ x ∧ x ≤ 1000000 := by
  obtain ⟨hlen, hget⟩ := within_get.1 hw
  intro x hx
  obtain ⟨i, hi, rfl⟩ := List.getElem_of_mem hx
  have hd : i < d.length := by omega
  have h1 := hget i d[i] c[i] (List.getElem?_eq_getElem hd) (List.getElem?_eq_getElem hi)
  have h2 := hv.1 d[i] (List.getElem_mem _)
  exact ⟨Int.le_trans h2.low h1.1, Int.le_trans h1.2 h2.high⟩
/-- The tokens of a case's text are few. -/
theorem full_case {d : List Fact} {c : List Int} (h : ∀ f ∈ d, Lx.Good 1 f.name 0) (hx : ∀ x ∈ c, x ≤ 1000000) (h60 : d.length ≤ 60) (hl : (ctext d c).length ≤ 20000) : full (ctext d c) = ((lex (ctext d c) 0).1, 0, 0) := by
  have hlx := lex_case h hx 0
  have hn := cwords_count d c
  rw [hlx]
  exact full_of hl hlx (by rw [spelt_len]; omega)
/-- The values in reverse order. -/
theorem caseT_turned {d : List Fact} {c : List Int} (hv : Valid d) (hw : within d c = true) (hl : (ctext d.reverse c.reverse).length ≤ 20000) : caseT d (ctext d.reverse c.reverse) = .ok c := by
  have hlen := (within_get.1 hw).1
  have hs := case_small hv hw
  have h := order_text hv hw (List.range d.length).reverse (by have h : (List.range d.length).reverse.Pairwise (· ≠ ·) := List.pairwise_reverse.2 (List.nodup_range.imp fun h => h.symm); exact h) (fun j => by rw [List.mem_reverse, List.mem_range]) (ctext d.reverse c.reverse).length 0
  have e1 : (iwords d c (List.range d.length).reverse).1 = d.reverse := by
    show (List.range d.length).reverse.filterMap (d[·]?) = _
    rw [List.filterMap_reverse, range_get]
  have e2 : (iwords d c (List.range d.length).reverse).2 = c.reverse := by
    show (List.range d.length).reverse.filterMap (c[·]?) = _
    rw [List.filterMap_reverse, show d.length = c.length by omega, range_get]
  rw [e1, e2] at h
  unfold caseT
  rw [full_case (fun f hf => (hv.1 f (List.mem_reverse.1 hf)).name) (fun x hx => (hs x (List.mem_reverse.1 hx)).2) (by rw [List.length_reverse]; exact hv.2.2) hl, if_pos rfl]
  dsimp only
  rw [h]
  rfl
theorem case_text {d : List Fact} {c : List Int} (hv : Valid d) (hw : within d c = true) (e a : Nat) : parseCase e d (lex (ctext d c) a).1 = .ok c := by
  have hlen := (within_get.1 hw).1
  have h := order_text hv hw (List.range d.length) List.nodup_range (fun j => List.mem_range) e a
  have e1 : (iwords d c (List.range d.length)).1 = d := by
    show (List.range d.length).filterMap (d[·]?) = _
    rw [range_get]
  have e2 : (iwords d c (List.range d.length)).2 = c := by
    show (List.range d.length).filterMap (c[·]?) = _
    rw [show d.length = c.length by omega, range_get]
  rwa [e1, e2] at h
theorem caseT_text {d : List Fact} {c : List Int} (hv : Valid d) (hw : within d c = true) (hl : (ctext d c).length ≤ 20000) : caseT d (ctext d c) = .ok c := by
  have hs := case_small hv hw
  unfold caseT
  rw [full_case (fun f hf => (hv.1 f hf).name) (fun x hx => (hs x hx).2) hv.2.2 hl, if_pos rfl]
  dsimp only
  rw [case_text hv hw]
  rfl
theorem ctext_inj {d : List Fact} {a b : List Int} (hv : Valid d) (ha : within d a = true) (hb : within d b = true) (h : ctext d a = ctext d b) : a = b := by
  have h1 := case_text hv ha 0 0
  rw [h, case_text hv hb 0 0] at h1
  exact (Except.ok.inj h1).symm
end Go.Proofs.YtoamkanofhhjfaaGreatDoor.Fc
/-
  The contracts of the calls of the laws of stage 6 in closed form.
-/
namespace Go.Proofs.YtoamkanofhhjfaaGreatDoor
open Go.RowKit

namespace Fc
/-- The answer of a call that leaves all that is old. -/
def Gives (v : Value) (w : World) (e : Ending) (w' : World) : Prop := e = .returned v ∧ Below w.heap.size w w'
theorem Says.gives {P : Prop} {w w' : World} {e : Ending} (h : Says P w e w') (b : Bool) (hp : b = true ↔ P) : Gives (.bool b) w e w' := by
  obtain ⟨⟨c, rfl, hc⟩, hb⟩ := h
  have : c = b := by cases c <;> cases b <;> simp_all
  subst this
  exact ⟨rfl, hb⟩
structure Held2 (w : World) (v u : Value) (wr : World) : Prop where
  below : Below w.heap.size w wr
  one : wr.cell? ⟨w.heap.size, 0, none⟩ = some v
  two : wr.cell? ⟨w.heap.size + 1, 0, none⟩ = some u
theorem Held2.start (w : World) (v u : Value) : Held2 w v u (box2 w v u) := ⟨(Box2.start w v u).below, (Box2.start w v u).one, (Box2.start w v u).two⟩
theorem Held2.next {w wr w2 : World} {v u : Value} (h : Held2 w v u wr) (hb : Below wr.heap.size wr w2) : Held2 w v u w2 :=
  ⟨h.below.trans (hb.mono h.below.size), (hb.cell (p := ⟨w.heap.size, 0, none⟩) (block_lt_of_cell h.one)).trans h.one, (hb.cell (p := ⟨w.heap.size + 1, 0, none⟩) (block_lt_of_cell h.two)).trans h.two⟩
end Fc

theorem valid_is (v : Value) (l : List Fc.Fact) (w : World) (hv : Fc.IsF w v l) (b : Bool) (h : b = true ↔ Fc.Valid l) :
    Calls Tryz.prog 12 #[.agg #[v]] w (Fc.Gives (.bool b) w) :=
  (valid_walk v l w hv).mono fun _ _ hs => hs.gives b h
theorem fits_is (v u : Value) (l : List Fc.Fact) (m : List Int) (w : World) (hv : Fc.IsF w v l) (hu : Fc.IsN w u m) (b : Bool) (h : b = true ↔ Fc.Fit l m) :
    Calls Tryz.prog 14 #[.agg #[v], u] w (Fc.Gives (.bool b) w) :=
  (fits_walk v u l m w hv hu).mono fun _ _ hs => hs.gives b h
theorem same_is (v u : Value) (l m : List Fc.Fact) (w : World) (hv : Fc.IsF w v l) (hu : Fc.IsF w u m) (b : Bool) (h : b = true ↔ l = m) :
    Calls Tryz.prog 22 #[.agg #[v], .agg #[u]] w (Fc.Gives (.bool b) w) :=
  (same_walk v u l m w hv hu).mono fun _ _ hs => hs.gives b h
theorem equal_is (v u : Value) (l m : List Int) (w : World) (hv : Fc.IsN w v l) (hu : Fc.IsN w u m) (b : Bool) (h : b = true ↔ l = m) :
    Calls Tryz.prog 23 #[v, u] w (Fc.Gives (.bool b) w) :=
  (equal_walk v u l m w hv hu).mono fun _ _ hs => hs.gives b h
theorem few_is (v u : Value) (l : List Fc.Fact) (m : List Int) (w : World) (hv : Fc.IsF w v l) (hu : Fc.IsN w u m) (b : Bool) (h : b = true ↔ (Fc.Few l 70 ∧ m.length ≤ 70)) :
    Calls Tryz.prog 5 #[.agg #[v], u] w (Fc.Gives (.bool b) w) :=
  (few_walk v u l m w hv hu).mono fun _ _ hs => hs.gives b h

/-- Parse, where it makes a domain. -/
theorem parse_is (s : ByteArray) (hm : s.size ≤ 9223372036854775807) (w : World) {d : List Fc.Fact} (h : Fc.parseT (Lx.tx s) = .ok d) :
    Calls Tryz.prog 6 #[.string s] w fun e w' => Below w.heap.size w w' ∧ ∃ a c, e = .returned (.tuple #[.agg #[.slice a d.length c], .int .i64 0, .int .i64 0]) ∧ Fc.IsF w' (.slice a d.length c) d ∧ Fc.Valid d := by
  refine (parse_walk s hm w).mono ?_
  intro e w' hp
  rw [h] at hp
  obtain ⟨hb, v, rfl, ho, hv⟩ := hp
  obtain ⟨⟨a, c⟩, rfl⟩ := ho.form
  exact ⟨hb, a, c, rfl, ho.isF hv.sized, hv⟩
theorem parse_err (s : ByteArray) (hm : s.size ≤ 9223372036854775807) (w : World) {z : Nat × Int} (h : Fc.parseT (Lx.tx s) = .error z) :
    Calls Tryz.prog 6 #[.string s] w (Fc.Gives (.tuple #[.agg #[.slice none 0 0], .int .i64 (z.1 : Nat), .int .i64 z.2]) w) := by
  refine (parse_walk s hm w).mono ?_
  intro e w' hp
  rw [h] at hp
  exact ⟨hp.2, hp.1⟩
open Classical in
/-- The canonical text. -/
theorem text_is (v : Value) (d : List Fc.Fact) (w : World) (hF : Fc.IsF w v d) (ht : HasTab w) (s : ByteArray) (hs : s = Lx.str (if Fc.Valid d then Fc.dtext d else [])) :
    Calls Tryz.prog 18 #[.agg #[v]] w (Fc.Gives (.string s) w) := by
  subst hs
  by_cases h : Fc.Valid d
  · rw [if_pos h]; exact text_walk v d w hF h ht
  · rw [if_neg h]; exact text_no v d w hF h
open Classical in
theorem casetext_is (v u : Value) (d : List Fc.Fact) (m : List Int) (w : World) (hF : Fc.IsF w v d) (hu : Fc.IsN w u m) (ht : HasTab w) (s : ByteArray) (hs : s = Lx.str (if Fc.Fit d m then Fc.ctext d m else [])) :
    Calls Tryz.prog 20 #[.agg #[v], u] w (Fc.Gives (.string s) w) := by
  subst hs
  by_cases h : Fc.Fit d m
  · rw [if_pos h]; exact casetext_walk v u d m w hF hu h ht
  · rw [if_neg h]; exact casetext_no v u d m w hF hu h
/-- ParseCase, where it makes a case. -/
theorem parsecase_is (v : Value) (d : List Fc.Fact) (s : ByteArray) (hm : s.size ≤ 9223372036854775807) (w : World) (hF : Fc.IsF w v d) (hv : Fc.Valid d) {c : List Int} (h : Fc.caseT d (Lx.tx s) = .ok c) :
    Calls Tryz.prog 8 #[.agg #[v], .string s] w fun e w' => Below w.heap.size w w' ∧ ∃ g, e = .returned (.tuple #[.slice (some ⟨g, 0, none⟩) c.length c.length, .int .i64 0, .int .i64 0]) ∧ Fc.IsN w' (.slice (some ⟨g, 0, none⟩) c.length c.length) c ∧ Fc.Fit d c := by
  refine (parsecase_walk v d s hm w hF hv).mono ?_
  intro e w' hp
  rw [h] at hp
  obtain ⟨hb, g, rfl, ho, _⟩ := hp
  have hw : Fc.within d c = true := by
    unfold Fc.caseT at h
    split at h
    · cases hp : Fc.parseCase (Lx.tx s).length d (Lx.full (Lx.tx s)).1 with
      | ok c2 => rw [hp] at h; obtain rfl := Except.ok.inj h; exact Fc.case_within hp
      | error z => rw [hp] at h; cases h
    · cases h
  have hs := Fc.case_small hv hw
  have hl := (Fc.within_get.1 hw).1
  exact ⟨hb, g, rfl, ho.isN (by have := hv.2.2; omega) (fun x hx => by have := hs x hx; omega), hv, hw⟩
theorem parsecase_err (v : Value) (d : List Fc.Fact) (s : ByteArray) (hm : s.size ≤ 9223372036854775807) (w : World) (hF : Fc.IsF w v d) (hv : Fc.Valid d) {z : Nat × Int} (h : Fc.caseT d (Lx.tx s) = .error z) :
    Calls Tryz.prog 8 #[.agg #[v], .string s] w (Fc.Gives (.tuple #[.slice none 0 0, .int .i64 (z.1 : Nat), .int .i64 z.2]) w) := by
  refine (parsecase_walk v d s hm w hF hv).mono ?_
  intro e w' hp
  rw [h] at hp
  exact ⟨hp.2, hp.1⟩
end Go.Proofs.YtoamkanofhhjfaaGreatDoor
