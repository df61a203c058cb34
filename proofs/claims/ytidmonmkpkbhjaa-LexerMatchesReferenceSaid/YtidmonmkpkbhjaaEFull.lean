/-
  What Lex answers, from the tokens and errors that came.
-/
import Derived.Test.YtidmonmkpkbhjaaEItems
namespace Go.Proofs.Ytidmonmkpkbhjaa.Lx

/-- The last of what came ends the range: its error, or one token too many. -/
def Ends (pre : List (Tok × Nat)) (E A : Nat) : Prop :=
  ∃ q x, pre = q ++ [x] ∧ (∀ y ∈ q, y.2 = 0) ∧ q.length ≤ 5000 ∧ ((x.2 ≠ 0 ∧ E = x.2) ∨ (x.2 = 0 ∧ q.length = 5000 ∧ E = 2)) ∧ A = x.1.at_
theorem items_get (s : T) (a k : Nat) (x : Tok × Nat) (h : (items s a)[k]? = some x) :
    (x.2 = 0 ∧ (lex s a).1[k]? = some x.1) ∨ (x.2 ≠ 0 ∧ k = (lex s a).1.length ∧ (lex s a).2 = some (x.2, x.1.at_)) := by
  unfold items at h
  by_cases hk : k < (lex s a).1.length
  · rw [List.getElem?_append_left (by rw [List.length_map]; exact hk), List.getElem?_map, List.getElem?_eq_getElem hk] at h
    have : x = ((lex s a).1[k], 0) := (Option.some.inj h).symm
    rw [this]
    exact .inl ⟨rfl, List.getElem?_eq_getElem hk⟩
  · rw [List.getElem?_append_right (by rw [List.length_map]; omega), List.length_map] at h
    cases he : (lex s a).2 with
    | none => rw [he] at h; simp at h
    | some e =>
      rw [he] at h
      have hx := lex_errAt _ s (Nat.le_refl _) a e he
      have h0 : k - (lex s a).1.length = 0 := by
        rcases Nat.eq_zero_or_pos (k - (lex s a).1.length) with h1 | h1
        · exact h1
        · rw [show k - (lex s a).1.length = (k - (lex s a).1.length - 1) + 1 by omega] at h; simp at h
      rw [h0] at h
      have : x = (noTok e.2, e.1) := by simpa using h.symm
      rw [this]
      exact .inr ⟨by have := hx.2.2; show e.1 ≠ 0; omega, by omega, rfl⟩
theorem full_err {s : T} (hs : s.length ≤ 20000) {pre rest : List (Tok × Nat)} (hi : items s 0 = pre ++ rest) {E A : Nat} (h : Ends pre E A) : full s = ([], E, (A : Int)) := by
  obtain ⟨q, x, rfl, hq, hq5, hx, rfl⟩ := h
  have hget : (items s 0)[q.length]? = some x := by rw [hi, List.append_assoc, List.getElem?_append_right (Nat.le_refl _), Nat.sub_self]; rfl
  unfold full
  rw [if_neg (by omega)]
  dsimp only
  rcases items_get s 0 q.length x hget with ⟨h0, h1⟩ | ⟨h0, h1, h2⟩
  · rcases hx with ⟨h3, _⟩ | ⟨_, h4, rfl⟩
    · exact absurd h0 h3
    · rw [h4] at h1
      have hl := (List.getElem?_eq_some_iff.1 h1).1
      rw [if_pos hl, List.getD_eq_getElem?_getD, List.getElem?_map, h1]; rfl
  · rcases hx with ⟨_, rfl⟩ | ⟨h3, _⟩
    · rw [if_neg (by omega), h2]
    · exact absurd h3 h0
theorem full_done {s : T} (hs : s.length ≤ 20000) {xs : List (Tok × Nat)} (hi : xs = items s 0) (h0 : ∀ y ∈ xs, y.2 = 0) (h5 : xs.length ≤ 5000) : full s = (xs.map (·.1), 0, 0) := by
  have he : (lex s 0).2 = none := by
    cases he : (lex s 0).2 with
    | none => rfl
    | some e =>
      exfalso
      have hx := lex_errAt _ s (Nat.le_refl _) 0 e he
      have : (noTok e.2, e.1) ∈ xs := by
        rw [hi]; unfold items; rw [he]; simp
      have := h0 _ this
      have h3 := hx.2.2
      simp only at this
      omega
  have hl : items s 0 = (lex s 0).1.map (fun t => (t, 0)) := by unfold items; rw [he]; simp
  rw [hl] at hi
  subst hi
  rw [List.length_map] at h5
  unfold full
  rw [if_neg (by omega)]
  dsimp only
  have hm : ((lex s 0).1.map (fun t => ((t, 0) : Tok × Nat))).map (·.1) = (lex s 0).1 := by rw [List.map_map]; exact List.map_id _
  rw [if_neg (by omega), he, hm]
theorem full_long {s : T} (hs : 20000 < s.length) : full s = ([], 2, -1) := by unfold full; rw [if_pos hs]
end Go.Proofs.Ytidmonmkpkbhjaa.Lx
