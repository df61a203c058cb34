import Derived.Test.YtoamkanofhhjfaaGreatDoorKELst
import Derived.Test.YtoamkanofhhjfaaGreatDoorKELexW
/-
  Lists of tokens that a call was handed: their cells.
-/
namespace Go.Proofs.YtoamkanofhhjfaaGreatDoor
open Go.RowKit

namespace Lx
/-- A slice of tokens as a value that is read. -/
def IsL (w : World) (v : Value) (l : List Tok) : Prop :=
  ∃ a c, v = .slice a l.length c ∧ l.length ≤ c ∧ c ≤ 9223372036854775807 ∧ (l ≠ [] → ∃ g, a = some ⟨g, 0, none⟩ ∧ g < w.heap.size ∧ ∀ i t, l[i]? = some t →
    w.cell? ⟨g, i * 4, none⟩ = some (.int .i64 (t.kind : Nat)) ∧ w.cell? ⟨g, i * 4 + 1, none⟩ = some (.string (str t.text)) ∧ w.cell? ⟨g, i * 4 + 2, none⟩ = some (.int .i64 (t.n : Nat)) ∧ w.cell? ⟨g, i * 4 + 3, none⟩ = some (.int .i64 (t.at_ : Nat)))
theorem OwnT.isL {base : Nat} {l : List Tok} {v : Value} {w : World} (h : OwnT base l v w) : IsL w v l := by
  obtain ⟨hrow, hnil⟩ := h
  rcases hrow.2 with ⟨h1, h2⟩ | ⟨g, cap, cur, h1, h2, h3, h4, h5, _⟩
  · have : l = [] := List.length_eq_zero_iff.1 h2
    subst this
    exact ⟨none, 0, h1, Nat.le_refl _, by omega, fun h => absurd rfl h⟩
  · refine ⟨_, cap, h1, h4, by unfold maxLen at h5; omega, fun _ => ⟨g, rfl, (Array.getElem?_eq_some_iff.1 h3).1, fun i t ht => ?_⟩⟩
    have hc : ∀ j u, (cellsL l)[j]? = some u → w.cell? ⟨g, j, none⟩ = some u := fun j u hu => by
      have := hrow.cells (g := g) (by rw [h1]; rfl) j u hu
      have hadd : (⟨g, 0, none⟩ : Addr).add j = ⟨g, j, none⟩ := by unfold Addr.add; split <;> simp_all
      rwa [hadd] at this
    exact ⟨hc _ _ (by have := cellsL_get l i t ht 0 (by omega); rw [Nat.add_zero] at this; exact this), hc _ _ (cellsL_get l i t ht 1 (by omega)), hc _ _ (cellsL_get l i t ht 2 (by omega)), hc _ _ (cellsL_get l i t ht 3 (by omega))⟩
theorem IsL.below {w w' : World} {v : Value} {l : List Tok} (h : IsL w v l) (hb : Below w.heap.size w w') : IsL w' v l := by
  obtain ⟨a, c, e, h1, h2, h3⟩ := h
  refine ⟨a, c, e, h1, h2, fun hne => ?_⟩
  obtain ⟨g, e2, hg, hc⟩ := h3 hne
  refine ⟨g, e2, Nat.lt_of_lt_of_le hg hb.size, fun i t ht => ?_⟩
  obtain ⟨q0, q1, q2, q3⟩ := hc i t ht
  exact ⟨(hb.cell (p := ⟨g, i * 4, none⟩) hg).trans q0, (hb.cell (p := ⟨g, i * 4 + 1, none⟩) hg).trans q1, (hb.cell (p := ⟨g, i * 4 + 2, none⟩) hg).trans q2, (hb.cell (p := ⟨g, i * 4 + 3, none⟩) hg).trans q3⟩
/-- Its cells, where there are any. -/
theorem IsL.some {w : World} {v : Value} {l : List Tok} (h : IsL w v l) (hne : l ≠ []) : ∃ g c, v = .slice (Option.some ⟨g, 0, none⟩) l.length c ∧ l.length ≤ c ∧ c ≤ 9223372036854775807 ∧ g < w.heap.size ∧ ∀ i t, l[i]? = Option.some t →
    w.cell? ⟨g, i * 4, none⟩ = Option.some (.int .i64 (t.kind : Nat)) ∧ w.cell? ⟨g, i * 4 + 1, none⟩ = Option.some (.string (str t.text)) ∧ w.cell? ⟨g, i * 4 + 2, none⟩ = Option.some (.int .i64 (t.n : Nat)) ∧ w.cell? ⟨g, i * 4 + 3, none⟩ = Option.some (.int .i64 (t.at_ : Nat)) := by
  obtain ⟨a, c, e, h1, h2, h3⟩ := h
  obtain ⟨g, rfl, hg, hc⟩ := h3 hne
  exact ⟨g, c, e, h1, h2, hg, hc⟩
/-- The same from an offset on. -/
def IsLo (w : World) (v : Value) (l : List Tok) : Prop :=
  ∃ a c, v = .slice a l.length c ∧ l.length ≤ c ∧ c ≤ 9223372036854775807 ∧ (l ≠ [] → ∃ g o, a = Option.some ⟨g, o, none⟩ ∧ g < w.heap.size ∧ ∀ i t, l[i]? = Option.some t →
    w.cell? ⟨g, o + i * 4, none⟩ = Option.some (.int .i64 (t.kind : Nat)) ∧ w.cell? ⟨g, o + i * 4 + 1, none⟩ = Option.some (.string (str t.text)) ∧ w.cell? ⟨g, o + i * 4 + 2, none⟩ = Option.some (.int .i64 (t.n : Nat)) ∧ w.cell? ⟨g, o + i * 4 + 3, none⟩ = Option.some (.int .i64 (t.at_ : Nat)))
theorem IsL.lo {w : World} {v : Value} {l : List Tok} (h : IsL w v l) : IsLo w v l := by
  obtain ⟨a, c, e, h1, h2, h3⟩ := h
  refine ⟨a, c, e, h1, h2, fun hne => ?_⟩
  obtain ⟨g, e2, hg, hc⟩ := h3 hne
  exact ⟨g, 0, e2, hg, fun i t ht => by rw [Nat.zero_add]; exact hc i t ht⟩
theorem IsLo.form {w : World} {v : Value} {l : List Tok} (h : IsLo w v l) : ∃ a c, v = .slice a l.length c := by
  obtain ⟨a, c, e, _⟩ := h; exact ⟨a, c, e⟩
theorem IsLo.some {w : World} {v : Value} {l : List Tok} (h : IsLo w v l) (hne : l ≠ []) : ∃ g o c, v = .slice (Option.some ⟨g, o, none⟩) l.length c ∧ l.length ≤ c ∧ c ≤ 9223372036854775807 ∧ g < w.heap.size ∧ ∀ i t, l[i]? = Option.some t →
    w.cell? ⟨g, o + i * 4, none⟩ = Option.some (.int .i64 (t.kind : Nat)) ∧ w.cell? ⟨g, o + i * 4 + 1, none⟩ = Option.some (.string (str t.text)) ∧ w.cell? ⟨g, o + i * 4 + 2, none⟩ = Option.some (.int .i64 (t.n : Nat)) ∧ w.cell? ⟨g, o + i * 4 + 3, none⟩ = Option.some (.int .i64 (t.at_ : Nat)) := by
  obtain ⟨a, c, e, h1, h2, h3⟩ := h
  obtain ⟨g, o, rfl, hg, hc⟩ := h3 hne
  exact ⟨g, o, c, e, h1, h2, hg, hc⟩
theorem IsLo.below {w w' : World} {v : Value} {l : List Tok} (h : IsLo w v l) (hb : Below w.heap.size w w') : IsLo w' v l := by
  obtain ⟨a, c, e, h1, h2, h3⟩ := h
  refine ⟨a, c, e, h1, h2, fun hne => ?_⟩
  obtain ⟨g, o, e2, hg, hc⟩ := h3 hne
  refine ⟨g, o, e2, Nat.lt_of_lt_of_le hg hb.size, fun i t ht => ?_⟩
  obtain ⟨q0, q1, q2, q3⟩ := hc i t ht
  exact ⟨(hb.cell (p := ⟨g, o + i * 4, none⟩) hg).trans q0, (hb.cell (p := ⟨g, o + i * 4 + 1, none⟩) hg).trans q1, (hb.cell (p := ⟨g, o + i * 4 + 2, none⟩) hg).trans q2, (hb.cell (p := ⟨g, o + i * 4 + 3, none⟩) hg).trans q3⟩
/-- The two parts of a list of tokens in memory. -/
theorem parts {w : World} {g c : Nat} {l m : List Tok} (hc1 : (l ++ m).length ≤ c) (hc2 : c ≤ 9223372036854775807) (hg : g < w.heap.size)
    (hc : ∀ i t, (l ++ m)[i]? = Option.some t → w.cell? ⟨g, i * 4, none⟩ = Option.some (.int .i64 (t.kind : Nat)) ∧ w.cell? ⟨g, i * 4 + 1, none⟩ = Option.some (.string (str t.text)) ∧ w.cell? ⟨g, i * 4 + 2, none⟩ = Option.some (.int .i64 (t.n : Nat)) ∧ w.cell? ⟨g, i * 4 + 3, none⟩ = Option.some (.int .i64 (t.at_ : Nat))) :
    IsLo w (.slice (Option.some ⟨g, 0, none⟩) l.length c) l ∧ ∀ a : Option Addr, (m ≠ [] → a = Option.some ⟨g, l.length * 4, none⟩) → IsLo w (.slice a m.length (c - l.length)) m := by
  rw [List.length_append] at hc1
  refine ⟨⟨_, c, rfl, by omega, hc2, fun _ => ⟨g, 0, rfl, hg, fun i t ht => ?_⟩⟩, fun a ha => ⟨a, c - l.length, rfl, by omega, by omega, fun hne => ⟨g, l.length * 4, ha hne, hg, fun i t ht => ?_⟩⟩⟩
  · rw [Nat.zero_add]
    exact hc i t (by rw [List.getElem?_append_left (List.getElem?_eq_some_iff.1 ht).1]; exact ht)
  · have := hc (l.length + i) t (by rw [List.getElem?_append_right (by omega), show l.length + i - l.length = i by omega]; exact ht)
    rw [Nat.add_mul] at this
    exact this
theorem IsL.form {w : World} {v : Value} {l : List Tok} (h : IsL w v l) : ∃ a c, v = .slice a l.length c := by
  obtain ⟨a, c, e, _⟩ := h; exact ⟨a, c, e⟩
end Lx
end Go.Proofs.YtoamkanofhhjfaaGreatDoor
/-
  What Lex answers, in short.
-/
namespace Go.Proofs.YtoamkanofhhjfaaGreatDoor
open Go.RowKit

/-- What Lex answers, in short. -/
theorem lex_ex (s : ByteArray) (hm : s.size ≤ 9223372036854775807) (w : World) :
    Calls Tryz.prog 53 #[.string s] w fun e w' => ∃ v, e = .returned (.tuple #[v, .int .i64 ((Lx.full (Lx.tx s)).2.1 : Nat), .int .i64 (Lx.full (Lx.tx s)).2.2]) ∧ Lx.IsL w' v (Lx.full (Lx.tx s)).1 ∧ Below w.heap.size w w' :=
  (lex_walk s hm w).mono fun _ _ ⟨v, h1, h2, h3⟩ => ⟨v, h1, h2.isL, h3⟩
theorem lex_of (s : ByteArray) (hm : s.size ≤ 9223372036854775807) (l : List Lx.Tok) (E A : Int) (E' : Nat) (hE : (E' : Int) = E) (h : Lx.full (Lx.tx s) = (l, E', A)) (w : World) :
    Calls Tryz.prog 53 #[.string s] w fun e w' => ∃ v, e = .returned (.tuple #[v, .int .i64 E, .int .i64 A]) ∧ Lx.IsL w' v l ∧ Below w.heap.size w w' := by
  have := lex_ex s hm w
  rw [h] at this
  simp only [hE] at this
  exact this
theorem Lx.full_ok {s : Lx.T} (h : s.length ≤ 5000) {l : List Lx.Tok} (e : Lx.lex s 0 = (l, none)) : Lx.full s = (l, 0, 0) := by rw [Lx.full_small h, e]
theorem Lx.full_no {s : Lx.T} (h : s.length ≤ 5000) {l : List Lx.Tok} {x a : Nat} (e : Lx.lex s 0 = (l, some (x, a))) : Lx.full s = ([], x, (a : Int)) := by rw [Lx.full_small h, e]

end Go.Proofs.YtoamkanofhhjfaaGreatDoor
