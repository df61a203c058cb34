/-
  The canonical text of a case, or of its values in another order, makes the case (P6.3, P6.4).
-/
import Derived.Test.YtjcaingfeaaakaaFCaseP
namespace Go.Proofs.Ytjcaingfeaaakaa.Fc
open Lx

theorem index_at {d : List Fact} (h : (d.map (·.name)).Nodup) {i : Nat} {f : Fact} (hf : d[i]? = some f) : index d f.name = some i := by
  obtain ⟨hi, e⟩ := List.getElem?_eq_some_iff.1 hf
  unfold index
  rw [List.findIdx?_eq_some_iff_getElem]
  refine ⟨hi, by rw [e]; simp, fun j hj => ?_⟩
  have hji : j < d.length := by omega
  have hne : d[j].name ≠ f.name := by
    intro hc
    have h1 : (d.map (·.name))[j]'(by rw [List.length_map]; exact hji) = (d.map (·.name))[i]'(by rw [List.length_map]; exact hi) := by simp only [List.getElem_map, e]; exact hc
    have := (List.getElem_inj h).1 h1
    omega
  simp only [beq_iff_eq]
  exact hne
/-- What the values of a list of indices leave. -/
def put (c : List Int) (js : List Nat) (v : List (Option Int)) : List (Option Int) := js.foldl (fun v j => v.set j c[j]?) v
theorem put_len (c : List Int) : ∀ (js : List Nat) (v : List (Option Int)), (put c js v).length = v.length
  | [], _ => rfl
  | j :: js, v => by
    show (put c js (v.set j c[j]?)).length = _
    rw [put_len c js, List.length_set]
theorem put_get (c : List Int) : ∀ (js : List Nat) (v : List (Option Int)) (i : Nat), i < v.length → (put c js v)[i]? = if i ∈ js then some c[i]? else v[i]?
  | [], v, i, _ => by rw [if_neg (by simp)]; rfl
  | j :: js, v, i, h => by
    show (put c js (v.set j c[j]?))[i]? = _
    rw [put_get c js _ i (by rw [List.length_set]; exact h)]
    by_cases h1 : i ∈ js
    · rw [if_pos h1, if_pos (List.mem_cons_of_mem _ h1)]
    · rw [if_neg h1]
      by_cases h2 : j = i
      · subst h2
        rw [if_pos (by simp), List.getElem?_set_self h]
      · rw [List.getElem?_set_ne h2, if_neg (by rw [List.mem_cons]; rintro (e | e); exact h2 e.symm; exact h1 e)]
/-- The words of the values of a list of indices. -/
def iwords (d : List Fact) (c : List Int) (js : List Nat) : List Fact × List Int := (js.filterMap (d[·]?), js.filterMap (c[·]?))
theorem comma_first (e : Nat) (l : List Tok) : comma e true l = .ok ((), l) := rfl
theorem comma_word (e : Nat) (ws : List Word) (a : Nat) : ∃ b, comma e false (spelt (([], 3, [44], 0) :: ws) a) = .ok ((), spelt ws b) := by
  refine ⟨a + ([] : T).length + ([44] : T).length, ?_⟩
  unfold comma
  rw [if_neg (by decide), spelt, bind_is (want_is (.inr rfl))]
theorem valueAt_words {e : Nat} {d : List Fact} {v : List (Option Int)} {at_ i : Nat} {f : Fact} {x : Int} (hv : v.getD i none = none) (hd : d[i]? = some f) (h0 : 0 ≤ x) (hx : f.lo ≤ x ∧ x ≤ f.hi) (ws : List Word) (a : Nat) :
    ∃ b, valueAt e d v at_ (spelt (([32], 3, [61], 0) :: ([32], 2, dec x.toNat, x.toNat) :: ws) a) i = .ok (v.set i (some x), spelt ws b) := by
  unfold valueAt
  rw [if_neg (by rw [hv]; decide), spelt, spelt, bind_is (want_is (.inr rfl))]
  dsimp only
  rw [bind_is (want_is (.inl rfl)), hd]
  dsimp only
  rw [Int.toNat_of_nonneg h0, if_pos hx]
  exact ⟨_, rfl⟩
theorem value1_words {e : Nat} {d : List Fact} (hn : (d.map (·.name)).Nodup) {first : Bool} {v : List (Option Int)} {i : Nat} {f : Fact} {x : Int} (hv : v.getD i none = none) (hd : d[i]? = some f) (h0 : 0 ≤ x) (hx : f.lo ≤ x ∧ x ≤ f.hi) (p : T) (ws : List Word) (l : List Tok) (a : Nat)
    (hl : comma e first l = .ok ((), spelt (vwords p f x ++ ws) a)) : ∃ b, value1 e d first v l = .ok (v.set i (some x), spelt ws b) := by
  unfold value1
  rw [bind_is hl]
  dsimp only
  rw [vwords, List.cons_append, spelt, bind_is (want_is (.inl rfl))]
  dsimp only
  rw [index_at hn hd]
  exact valueAt_words hv hd h0 hx ws _
theorem rest_words {e : Nat} {d : List Fact} {c : List Int} (hn : (d.map (·.name)).Nodup) (hw : within d c = true) (h0 : ∀ x ∈ c, 0 ≤ x) : ∀ (m : Nat) (js : List Nat) (v : List (Option Int)) (a : Nat), js.length ≤ m → js.Nodup → (∀ j ∈ js, j < d.length ∧ v.getD j none = none) →
    valuesF e d m false v (spelt (rwords (iwords d c js).1 (iwords d c js).2) a) = .ok (put c js v)
  | 0, js, v, a, hm, _, _ => by
    have : js = [] := List.length_eq_zero_iff.1 (by omega)
    subst this; rfl
  | m + 1, [], v, a, _, _, _ => rfl
  | m + 1, j :: js, v, a, hm, hnd, hj => by
    obtain ⟨hlen, hget⟩ := within_get.1 hw
    obtain ⟨hjd, hjv⟩ := hj j (by simp)
    have hd : d[j]? = some d[j] := List.getElem?_eq_getElem hjd
    have hjc : j < c.length := by omega
    have hc : c[j]? = some c[j] := List.getElem?_eq_getElem hjc
    have e1 : (iwords d c (j :: js)).1 = d[j] :: (iwords d c js).1 := by simp [iwords, hd]
    have e2 : (iwords d c (j :: js)).2 = c[j] :: (iwords d c js).2 := by simp [iwords, hc]
    rw [e1, e2, rwords]
    obtain ⟨b, hb⟩ := comma_word e (vwords [32] d[j] c[j] ++ rwords (iwords d c js).1 (iwords d c js).2) a
    obtain ⟨b2, hb2⟩ := value1_words (e := e) hn hjv hd (h0 _ (List.getElem_mem _)) (hget j _ _ hd hc) [32] _ _ b hb
    rw [List.nodup_cons] at hnd
    have ih := rest_words (e := e) hn hw h0 m js (v.set j (some c[j])) b2 (by rw [List.length_cons] at hm; omega) hnd.2 (fun i hi => by
      obtain ⟨i1, i2⟩ := hj i (by simp [hi])
      refine ⟨i1, ?_⟩
      have hij : j ≠ i := by rintro rfl; exact hnd.1 hi
      rw [List.getD_eq_getElem?_getD, List.getElem?_set_ne hij, ← List.getD_eq_getElem?_getD]; exact i2)
    cases hsp : spelt (([], 3, [44], 0) :: (vwords [32] d[j] c[j] ++ rwords (iwords d c js).1 (iwords d c js).2)) a with
    | nil => rw [hsp] at hb2; cases hb2
    | cons t r =>
      rw [hsp] at hb2
      rw [valuesF, bind_is hb2]
      show _ = Except.ok (put c js (v.set j c[j]?))
      rw [hc]
      exact ih
theorem case_words {e : Nat} {d : List Fact} {c : List Int} (hn : (d.map (·.name)).Nodup) (hw : within d c = true) (h0 : ∀ x ∈ c, 0 ≤ x) (m : Nat) (js : List Nat) (v : List (Option Int)) (a : Nat) (hm : js.length ≤ m) (hnd : js.Nodup) (hj : ∀ j ∈ js, j < d.length ∧ v.getD j none = none) :
    valuesF e d m true v (spelt (cwords (iwords d c js).1 (iwords d c js).2) a) = .ok (put c js v) := by
  cases js with
  | nil =>
    cases m with
    | zero => rfl
    | succ m => rfl
  | cons j js =>
    cases m with
    | zero => cases hm
    | succ m =>
      obtain ⟨hlen, hget⟩ := within_get.1 hw
      obtain ⟨hjd, hjv⟩ := hj j (by simp)
      have hd : d[j]? = some d[j] := List.getElem?_eq_getElem hjd
      have hjc : j < c.length := by omega
      have hc : c[j]? = some c[j] := List.getElem?_eq_getElem hjc
      have e1 : (iwords d c (j :: js)).1 = d[j] :: (iwords d c js).1 := by simp [iwords, hd]
      have e2 : (iwords d c (j :: js)).2 = c[j] :: (iwords d c js).2 := by simp [iwords, hc]
      rw [e1, e2, cwords]
      obtain ⟨b2, hb2⟩ := value1_words (e := e) hn hjv hd (h0 _ (List.getElem_mem _)) (hget j _ _ hd hc) [] (rwords (iwords d c js).1 (iwords d c js).2) _ a (comma_first e _)
      rw [List.nodup_cons] at hnd
      have ih := rest_words (e := e) hn hw h0 m js (v.set j (some c[j])) b2 (by rw [List.length_cons] at hm; omega) hnd.2 (fun i hi => by
        obtain ⟨i1, i2⟩ := hj i (by simp [hi])
        refine ⟨i1, ?_⟩
        have hij : j ≠ i := by rintro rfl; exact hnd.1 hi
        rw [List.getD_eq_getElem?_getD, List.getElem?_set_ne hij, ← List.getD_eq_getElem?_getD]; exact i2)
      cases hsp : spelt (vwords [] d[j] c[j] ++ rwords (iwords d c js).1 (iwords d c js).2) a with
      | nil => rw [hsp] at hb2; cases hb2
      | cons t r =>
        rw [hsp] at hb2
        rw [valuesF, bind_is hb2]
        show _ = Except.ok (put c js (v.set j c[j]?))
        rw [hc]
        exact ih
theorem cwords_len : ∀ (d : List Fact) (c : List Int), d.length = c.length → c.length ≤ (cwords d c).length
  | [], [], _ => Nat.le_refl _
  | [], _ :: _, h => by cases h
  | _ :: _, [], _ => Nat.zero_le _
  | f :: d, x :: c, h => by
    have : ∀ (d : List Fact) (c : List Int), d.length = c.length → c.length ≤ (rwords d c).length := by
      intro d
      induction d with
      | nil => intro c h; rw [← h]; exact Nat.zero_le _
      | cons g d ih =>
        intro c h
        cases c with
        | nil => cases h
        | cons y c =>
          have := ih c (by simpa using h)
          rw [rwords, List.length_cons, List.length_cons, List.length_append]
          omega
    have := this d c (by simpa using h)
    rw [cwords, List.length_append, List.length_cons]
    have : 1 ≤ (vwords [] f x).length := by simp [vwords]
    omega
/-- Each value of a case once, in any order: the text makes the case. -/
theorem order_text {d : List Fact} {c : List Int} (hv : Valid d) (hw : within d c = true) (js : List Nat) (hnd : js.Nodup) (hj : ∀ j, j ∈ js ↔ j < d.length) (e a : Nat) :
    parseCase e d (lex (ctext (iwords d c js).1 (iwords d c js).2) a).1 = .ok c := by
  obtain ⟨hlen, hget⟩ := within_get.1 hw
  have hc0 : ∀ x ∈ c, 0 ≤ x ∧ x ≤ 1000000 := by
    intro x hx
    obtain ⟨i, hi, rfl⟩ := List.getElem_of_mem hx
    have hd : i < d.length := by omega
    have h1 := hget i d[i] c[i] (List.getElem?_eq_getElem hd) (List.getElem?_eq_getElem hi)
    have h2 := hv.1 d[i] (List.getElem_mem _)
    exact ⟨Int.le_trans h2.low h1.1, Int.le_trans h1.2 h2.high⟩
  have hls : ∀ ks : List Nat, (∀ k ∈ ks, k < d.length) → (iwords d c ks).1.length = ks.length ∧ (iwords d c ks).2.length = ks.length := by
    intro ks
    induction ks with
    | nil => intro _; exact ⟨rfl, rfl⟩
    | cons k ks ih =>
      intro h
      have hk := h k (by simp)
      obtain ⟨i1, i2⟩ := ih (fun i hi => h i (by simp [hi]))
      have hd : d[k]? = some d[k] := List.getElem?_eq_getElem hk
      have hc : c[k]? = some (c[k]'(by omega)) := List.getElem?_eq_getElem (by omega)
      have e1 : (iwords d c (k :: ks)).1 = d[k] :: (iwords d c ks).1 := by simp [iwords, hd]
      have e2 : (iwords d c (k :: ks)).2 = (c[k]'(by omega)) :: (iwords d c ks).2 := by simp [iwords, hc]
      exact ⟨by rw [e1, List.length_cons, List.length_cons, i1], by rw [e2, List.length_cons, List.length_cons, i2]⟩
  obtain ⟨l1, l2⟩ := hls js (fun j h => (hj j).1 h)
  rw [lex_case (fun f hf => by
      obtain ⟨j, _, hj2⟩ := List.mem_filterMap.1 hf
      exact (hv.1 f (List.mem_of_getElem? hj2)).name) (fun x hx => by
      obtain ⟨j, _, hj2⟩ := List.mem_filterMap.1 hx
      exact (hc0 x (List.mem_of_getElem? hj2)).2)]
  unfold parseCase
  have hread := case_words (e := e) hv.2.1 hw (fun x hx => (hc0 x hx).1) (spelt (cwords (iwords d c js).1 (iwords d c js).2) a).length js (d.map fun _ => none) a
    (by rw [spelt_len, ← l2]; exact cwords_len _ _ (by rw [l1, l2])) hnd (fun j h => ⟨(hj j).1 h, by
      rw [List.getD_eq_getElem?_getD, List.getElem?_map]
      cases d[j]? <;> rfl⟩)
  rw [bind_is hread]
  have hput : put c js (d.map fun _ => none) = c.map some := by
    apply List.ext_getElem?
    intro i
    by_cases hi : i < d.length
    · rw [put_get c js _ i (by rw [List.length_map]; exact hi), if_pos ((hj i).2 hi), List.getElem?_map, List.getElem?_eq_getElem (by omega : i < c.length)]
      rfl
    · rw [List.getElem?_eq_none (by rw [put_len, List.length_map]; omega), List.getElem?_eq_none (by rw [List.length_map]; omega)]
  rw [hput, if_pos (by simp), List.map_map]
  exact congrArg Except.ok (List.map_id c)
end Go.Proofs.Ytjcaingfeaaakaa.Fc
