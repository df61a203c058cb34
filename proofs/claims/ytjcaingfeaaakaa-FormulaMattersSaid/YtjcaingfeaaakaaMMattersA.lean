/-
  P7.5 in arithmetic: the terms without one of them, the case that is mixed of two.
-/
import Derived.Test.YtjcaingfeaaakaaMPartsA
import Derived.Test.YtjcaingfeaaakaaMNamed
namespace Go.Proofs.Ytjcaingfeaaakaa.Fm
open Lx
theorem mem_tmsL {x : T} : ∀ (ys : List (Nat × Fo)) (l : List T), x ∈ ys.foldl tadd l ↔ x ∈ l ∨ ∃ y ∈ ys, y.2.op = 4 ∧ y.2.name = x
  | [], l => by simp
  | y :: ys, l => by
    rw [List.foldl_cons, mem_tmsL ys]
    have h : x ∈ tadd l y ↔ x ∈ l ∨ (y.2.op = 4 ∧ y.2.name = x) := by
      unfold tadd addT
      by_cases h4 : y.2.op = 4
      · rw [if_pos h4]
        by_cases hm : y.2.name ∈ l
        · rw [if_pos (by simpa using hm)]
          exact ⟨.inl, fun h => h.elim id fun h => by rw [← h.2]; exact hm⟩
        · rw [if_neg (by simpa using hm), List.mem_append, List.mem_singleton]
          simp [h4, eq_comm]
      · rw [if_neg h4]; simp [h4]
    rw [h]
    simp [or_assoc]
theorem nodup_tmsL : ∀ (ys : List (Nat × Fo)) (l : List T), l.Nodup → (ys.foldl tadd l).Nodup
  | [], l, h => h
  | y :: ys, l, h => by
    rw [List.foldl_cons]
    refine nodup_tmsL ys _ ?_
    unfold tadd addT
    split
    · split
      · exact h
      · rename_i hm
        rw [List.nodup_append]
        refine ⟨h, by simp, fun a ha b hb e => ?_⟩
        rw [List.mem_singleton] at hb
        subst hb; subst e
        exact hm (by simpa using ha)
    · exact h
mutual
theorem mem_nds {x : T} (d : Nat) : ∀ f : Fo, (∃ y ∈ nds d f, y.2.op = 4 ∧ y.2.name = x) ↔ x ∈ termsR f
  | .mk o z c n ks => by
    rw [nds, termsR, List.mem_append, ← mem_ndsL (d + 1) ks]
    have e : (x ∈ if o = 4 then [z] else []) ↔ o = 4 ∧ z = x := by
      by_cases h : o = 4
      · simp [h, eq_comm]
      · simp [h]
    rw [e]
    simp [Fo.op, Fo.name]
theorem mem_ndsL {x : T} (d : Nat) : ∀ l : List Fo, (∃ y ∈ ndsL d l, y.2.op = 4 ∧ y.2.name = x) ↔ x ∈ termsRL l
  | [] => by rw [ndsL, termsRL]; simp
  | k :: ks => by
    rw [ndsL, termsRL, List.mem_append, ← mem_nds d k, ← mem_ndsL d ks]
    constructor
    · rintro ⟨y, hy, h⟩
      rcases List.mem_append.1 hy with hy | hy
      · exact .inl ⟨y, hy, h⟩
      · exact .inr ⟨y, hy, h⟩
    · rintro (⟨y, hy, h⟩ | ⟨y, hy, h⟩)
      · exact ⟨y, List.mem_append_left _ hy, h⟩
      · exact ⟨y, List.mem_append_right _ hy, h⟩
end
theorem mem_tms {x : T} {f : Fo} : x ∈ tms f ↔ x ∈ termsR f := by
  unfold tms
  rw [mem_tmsL, ← mem_nds 1 f]; simp
theorem tmsF_len : ∀ (ys : List (Nat × Fo)) (l : List T), (ys.foldl tadd l).length ≤ l.length + ys.length
  | [], l => by simp
  | y :: ys, l => by
    have h1 := tmsF_len ys (tadd l y)
    have h2 := tadd_len l y
    rw [List.foldl_cons, List.length_cons]
    omega
theorem tms_le (f : Fo) : (tms f).length ≤ size f := by
  have := tmsF_len (nds 1 f) []
  rw [nds_len] at this
  simpa [tms] using this
theorem tms_nodup (f : Fo) : (tms f).Nodup := nodup_tmsL _ _ (by simp)
theorem less_not {l : List T} (h : l.Nodup) {i : Nat} {t : T} (ht : l[i]? = some t) : t ∉ l.take i ++ l.drop (i + 1) := by
  obtain ⟨hi, rfl⟩ := List.getElem?_eq_some_iff.1 ht
  have e : l = l.take i ++ l[i] :: l.drop (i + 1) := by rw [List.getElem_cons_drop, List.take_append_drop]
  have h2 : (l.take i ++ l[i] :: l.drop (i + 1)).Nodup := by rw [← e]; exact h
  rw [List.nodup_append, List.nodup_cons] at h2
  rintro hm
  rcases List.mem_append.1 hm with hm | hm
  · exact h2.2.2 _ hm _ (List.mem_cons_self ..) rfl
  · exact h2.2.1.1 hm
theorem less_no {f : Fo} {d : List Fc.Fact} {c : List Int} (h : Good f d c) {i : Nat} {t : T} (ht : (tms f)[i]? = some t) : check Fc.isNm (fs d) (has ((tms f).take i ++ (tms f).drop (i + 1))) f = 7 := by
  obtain ⟨_, h1, h2, h3⟩ := h
  unfold check
  rw [if_neg (by omega), errs_less (ts2 := has ((tms f).take i ++ (tms f).drop (i + 1))) f (check_errs h3), if_pos]
  exact ⟨t, mem_tms.1 (List.mem_of_getElem? ht), decide_eq_false (less_not (tms_nodup f) ht)⟩
mutual
theorem errs_tested {isN fs ts : T → Bool} : ∀ f : Fo, errs isN fs ts f = 0 → ∀ x ∈ tested f, fs x = true
  | .mk o z cm n ks, h, x, hx => by
    obtain ⟨h1, h2⟩ := errs_ok.1 h
    rw [tested] at hx
    rcases List.mem_append.1 hx with hx | hx
    · by_cases h3 : o = 3
      · rw [if_pos h3, List.mem_singleton] at hx
        subst hx
        rw [err1] at h1
        split at h1
        · cases h1
        · split at h1
          · cases h1
          · split at h1
            · cases h1
            · rename_i hf
              cases hq : fs x with
              | true => rfl
              | false => exact absurd hq hf
      · rw [if_neg h3] at hx; cases hx
    · exact errsL_tested ks h2 x hx
theorem errsL_tested {isN fs ts : T → Bool} : ∀ l : List Fo, errsL isN fs ts l = 0 → ∀ x ∈ testedL l, fs x = true
  | [], _, x, hx => by rw [testedL] at hx; cases hx
  | k :: ks, h, x, hx => by
    have h1 : errs isN fs ts k = 0 := errsL_ok.1 h k (List.mem_cons_self ..)
    have h2 : errsL isN fs ts ks = 0 := errsL_ok.2 fun j hj => errsL_ok.1 h j (List.mem_cons_of_mem _ hj)
    rw [testedL] at hx
    rcases List.mem_append.1 hx with hx | hx
    · exact errs_tested k h1 x hx
    · exact errsL_tested ks h2 x hx
end
/-- The second case with the values of the first one in the first k places that p says. -/
def mix (p : Nat → Bool) (a b : List Int) (k : Nat) : List Int := (List.range b.length).map fun j => if j < k ∧ p j = true then a.getD j 0 else b.getD j 0
theorem mix_len (p : Nat → Bool) (a b : List Int) (k : Nat) : (mix p a b k).length = b.length := by unfold mix; simp
theorem mix_get {p : Nat → Bool} {a b : List Int} {k j : Nat} (h : j < b.length) : (mix p a b k)[j]? = some (if j < k ∧ p j = true then a.getD j 0 else b.getD j 0) := by
  unfold mix
  rw [List.getElem?_map, List.getElem?_range h]; rfl
theorem mix_zero (p : Nat → Bool) (a b : List Int) : mix p a b 0 = b := by
  refine List.ext_getElem? fun j => ?_
  by_cases h : j < b.length
  · rw [mix_get h, if_neg (by omega), List.getElem?_eq_getElem h, List.getD_eq_getElem?_getD, List.getElem?_eq_getElem h]; rfl
  · rw [List.getElem?_eq_none (by rw [mix_len]; omega), List.getElem?_eq_none (by omega)]
theorem mix_yes {p : Nat → Bool} {a b : List Int} {k : Nat} (hp : p k = true) : mix p a b (k + 1) = (mix p a b k).set k (a.getD k 0) := by
  refine List.ext_getElem? fun j => ?_
  by_cases h : j < b.length
  · rw [mix_get h]
    by_cases e : k = j
    · subst e
      rw [List.getElem?_set_self (by rw [mix_len]; exact h), if_pos ⟨by omega, hp⟩]
    · rw [List.getElem?_set_ne e, mix_get h]
      by_cases hj : j < k
      · by_cases hpj : p j = true
        · rw [if_pos ⟨by omega, hpj⟩, if_pos ⟨hj, hpj⟩]
        · rw [if_neg (fun h => hpj h.2), if_neg (fun h => hpj h.2)]
      · rw [if_neg (by omega), if_neg (by omega)]
  · rw [List.getElem?_eq_none (by rw [mix_len]; omega), List.getElem?_eq_none (by rw [List.length_set, mix_len]; omega)]
theorem mix_no {p : Nat → Bool} {a b : List Int} {k : Nat} (hp : p k = false) : mix p a b (k + 1) = mix p a b k := by
  refine List.ext_getElem? fun j => ?_
  by_cases h : j < b.length
  · rw [mix_get h, mix_get h]
    by_cases e : k = j
    · subst e
      rw [if_neg (fun h => by rw [hp] at h; cases h.2), if_neg (by omega)]
    · by_cases hj : j < k
      · by_cases hpj : p j = true
        · rw [if_pos ⟨by omega, hpj⟩, if_pos ⟨hj, hpj⟩]
        · rw [if_neg (fun h => hpj h.2), if_neg (fun h => hpj h.2)]
      · rw [if_neg (by omega), if_neg (by omega)]
  · rw [List.getElem?_eq_none (by rw [mix_len]; omega), List.getElem?_eq_none (by rw [mix_len]; omega)]
theorem getD_mem (l : List Int) (j : Nat) : l.getD j 0 ∈ l ∨ l.getD j 0 = 0 := by
  rw [List.getD_eq_getElem?_getD]
  by_cases h : j < l.length
  · rw [List.getElem?_eq_getElem h]; exact .inl (List.getElem_mem h)
  · rw [List.getElem?_eq_none (by omega)]; exact .inr rfl
theorem mix_mem {p : Nat → Bool} {a b : List Int} {k : Nat} {y : Int} (h : y ∈ mix p a b k) : y ∈ a ∨ y ∈ b ∨ y = 0 := by
  obtain ⟨j, _, rfl⟩ := List.mem_map.1 h
  split
  · exact (getD_mem a j).elim .inl fun e => .inr (.inr e)
  · exact (getD_mem b j).elim (fun e => .inr (.inl e)) fun e => .inr (.inr e)
/-- Whether a formula has a test of the fact with this index. -/
def nmdAt (f : Fo) (d : List Fc.Fact) (j : Nat) : Bool := match d[j]? with | some x => nmd x.name f | none => false
theorem nmdAt_get {f : Fo} {d : List Fc.Fact} {j : Nat} {x : Fc.Fact} (h : d[j]? = some x) : nmdAt f d j = nmd x.name f := by unfold nmdAt; rw [h]
theorem mix_fit {p : Nat → Bool} {d : List Fc.Fact} {a b : List Int} {k : Nat} (ha : Fc.Fit d a) (hb : Fc.Fit d b) : Fc.Fit d (mix p a b k) := by
  refine ⟨ha.1, Fc.within_get.2 ⟨?_, fun i f x hf hx => ?_⟩⟩
  · rw [mix_len]; exact Fc.within_len hb.2
  · have h1 := Fc.within_len hb.2
    have h2 := Fc.within_len ha.2
    have hi : i < b.length := by rw [h1]; exact (List.getElem?_eq_some_iff.1 hf).1
    rw [mix_get hi] at hx
    obtain rfl := Option.some.inj hx
    split
    · have hia : i < a.length := by omega
      exact (Fc.within_get.1 ha.2).2 i f _ hf (by rw [List.getD_eq_getElem?_getD, List.getElem?_eq_getElem hia]; rfl)
    · exact (Fc.within_get.1 hb.2).2 i f _ hf (by rw [List.getD_eq_getElem?_getD, List.getElem?_eq_getElem hi]; rfl)
theorem matters {f : Fo} {d : List Fc.Fact} {a b : List Int} {one two : List T} (hg : Good f d a) (hb : Fc.Fit d b) (ht : ∀ t ∈ tms f, has one t = has two t) : holdsB d a one f = holdsB d (mix (nmdAt f d) a b d.length) two f := by
  have h1 : formed d f = 0 := good_any hg _ fun _ => rfl
  rw [holdsB_yes hg.1 h1, holdsB_yes (mix_fit hg.1 hb) h1]
  refine holds_same f (fun x hx => ?_) (fun x hx => ht x (mem_tms.2 hx))
  have hfs := errs_tested f (check_errs hg.2.2.2) x hx
  have h0 : 0 ≤ Fc.idx d x := of_decide_eq_true hfs
  unfold val
  cases hi : Fc.index d x with
  | none => rw [Fc.idx_none hi] at h0; omega
  | some i =>
    rw [Fc.idx_some hi]
    obtain ⟨y, hy, hn, _⟩ := Fc.index_some_iff.1 hi
    have hid : i < d.length := (List.getElem?_eq_some_iff.1 hy).1
    have hib : i < b.length := by rw [Fc.within_len hb.2]; exact hid
    show a.getD i 0 = (mix (nmdAt f d) a b d.length).getD i 0
    have e := mix_get (p := nmdAt f d) (a := a) (k := d.length) hib
    rw [if_pos ⟨hid, by rw [nmdAt_get hy, hn]; exact decide_eq_true hx⟩] at e
    rw [List.getD_eq_getElem?_getD (l := mix (nmdAt f d) a b d.length), e]; rfl
end Go.Proofs.Ytjcaingfeaaakaa.Fm
