/-
  Facts and cases in memory: slices that are read; the heads of a domain.
-/
import Derived.Test.YtjcaingfeaaakaaFOrder
import Derived.Test.YtjcaingfeaaakaaLxBase
import Derived.Lib.SmallJoins
namespace Go.Proofs.Ytjcaingfeaaakaa
open Go.RowKit

namespace Fc
open Lx
/-- The four cells of a fact. -/
def cellsF (f : Fact) : List Value := [.string (str f.name), .int .i64 f.kind, .int .i64 f.lo, .int .i64 f.hi]
/-- What a fact's parts are, whatever it is. -/
def Sized (f : Fact) : Prop := f.name.length ≤ 9223372036854775807 ∧ (-9223372036854775808 ≤ f.kind ∧ f.kind ≤ 9223372036854775807) ∧ (-9223372036854775808 ≤ f.lo ∧ f.lo ≤ 9223372036854775807) ∧ (-9223372036854775808 ≤ f.hi ∧ f.hi ≤ 9223372036854775807)
/-- A slice of facts that is read. -/
def IsF (w : World) (v : Value) (l : List Fact) : Prop :=
  ∃ a c, v = .slice a l.length c ∧ l.length ≤ c ∧ c ≤ 9223372036854775807 ∧ (∀ f ∈ l, Sized f) ∧ (l ≠ [] → ∃ g o, a = some ⟨g, o, none⟩ ∧ g < w.heap.size ∧ ∀ i f, l[i]? = some f →
    w.cell? ⟨g, o + i * 4, none⟩ = some (.string (str f.name)) ∧ w.cell? ⟨g, o + i * 4 + 1, none⟩ = some (.int .i64 f.kind) ∧ w.cell? ⟨g, o + i * 4 + 2, none⟩ = some (.int .i64 f.lo) ∧ w.cell? ⟨g, o + i * 4 + 3, none⟩ = some (.int .i64 f.hi))
theorem IsF.nil (w : World) : IsF w (.slice none 0 0) [] := ⟨none, 0, rfl, Nat.le_refl _, by decide, by simp, by simp⟩
theorem IsF.below {w w' : World} {v : Value} {l : List Fact} (h : IsF w v l) (hb : Below w.heap.size w w') : IsF w' v l := by
  obtain ⟨a, c, e, h1, h2, h4, h3⟩ := h
  refine ⟨a, c, e, h1, h2, h4, fun hne => ?_⟩
  obtain ⟨g, o, e2, hg, hc⟩ := h3 hne
  refine ⟨g, o, e2, Nat.lt_of_lt_of_le hg hb.size, fun i t ht => ?_⟩
  obtain ⟨q0, q1, q2, q3⟩ := hc i t ht
  exact ⟨(hb.cell (p := ⟨g, o + i * 4, none⟩) hg).trans q0, (hb.cell (p := ⟨g, o + i * 4 + 1, none⟩) hg).trans q1, (hb.cell (p := ⟨g, o + i * 4 + 2, none⟩) hg).trans q2, (hb.cell (p := ⟨g, o + i * 4 + 3, none⟩) hg).trans q3⟩
theorem IsF.form {w : World} {v : Value} {l : List Fact} (h : IsF w v l) : ∃ a c, v = .slice a l.length c ∧ l.length ≤ c ∧ c ≤ 9223372036854775807 := by
  obtain ⟨a, c, e, h1, h2, _⟩ := h; exact ⟨a, c, e, h1, h2⟩
theorem IsF.some {w : World} {v : Value} {l : List Fact} (h : IsF w v l) (hne : l ≠ []) : ∃ g o c, v = .slice (Option.some ⟨g, o, none⟩) l.length c ∧ l.length ≤ c ∧ c ≤ 9223372036854775807 ∧ g < w.heap.size ∧ ∀ i f, l[i]? = Option.some f →
    w.cell? ⟨g, o + i * 4, none⟩ = Option.some (.string (str f.name)) ∧ w.cell? ⟨g, o + i * 4 + 1, none⟩ = Option.some (.int .i64 f.kind) ∧ w.cell? ⟨g, o + i * 4 + 2, none⟩ = Option.some (.int .i64 f.lo) ∧ w.cell? ⟨g, o + i * 4 + 3, none⟩ = Option.some (.int .i64 f.hi) := by
  obtain ⟨a, c, e, h1, h2, _, h3⟩ := h
  obtain ⟨g, o, rfl, hg, hc⟩ := h3 hne
  exact ⟨g, o, c, e, h1, h2, hg, hc⟩
theorem IsF.sized {w : World} {v : Value} {l : List Fact} (h : IsF w v l) : ∀ f ∈ l, Sized f := by
  obtain ⟨_, _, _, _, _, h4, _⟩ := h; exact h4
/-- One form for a slice of facts, empty or not: what a walk reads. -/
theorem IsF.any {w : World} {v : Value} {l : List Fact} (h : IsF w v l) : ∃ a c g o, v = .slice a l.length c ∧ l.length ≤ c ∧ c ≤ 9223372036854775807 ∧ (l ≠ [] → a = Option.some ⟨g, o, none⟩ ∧ g < w.heap.size) ∧ ∀ i f, l[i]? = Option.some f →
    w.cell? ⟨g, o + i * 4, none⟩ = Option.some (.string (str f.name)) ∧ w.cell? ⟨g, o + i * 4 + 1, none⟩ = Option.some (.int .i64 f.kind) ∧ w.cell? ⟨g, o + i * 4 + 2, none⟩ = Option.some (.int .i64 f.lo) ∧ w.cell? ⟨g, o + i * 4 + 3, none⟩ = Option.some (.int .i64 f.hi) := by
  by_cases hne : l = []
  · subst hne
    obtain ⟨a, c, e, h1, h2⟩ := h.form
    exact ⟨a, c, 0, 0, e, h1, h2, fun h => absurd rfl h, by simp⟩
  · obtain ⟨g, o, c, e, h1, h2, hg, hc⟩ := h.some hne
    exact ⟨_, c, g, o, e, h1, h2, fun _ => ⟨rfl, hg⟩, hc⟩

/-- A slice of numbers that is read. -/
def IsN (w : World) (v : Value) (l : List Int) : Prop :=
  ∃ (a : Option Addr) (cap : Nat), v = .slice a l.length cap ∧ l.length ≤ cap ∧ cap ≤ 9223372036854775807 ∧ (∀ x ∈ l, -9223372036854775808 ≤ x ∧ x ≤ 9223372036854775807) ∧
    (l ≠ [] → ∃ b off, a = some ⟨b, off, none⟩ ∧ b < w.heap.size ∧ ∀ i, i < l.length → w.cell? ⟨b, off + i, none⟩ = some (.int .i64 (l.getD i 0)))
theorem IsN.nil (w : World) : IsN w (.slice none 0 0) [] := ⟨none, 0, rfl, Nat.le_refl _, by decide, by simp, by simp⟩
theorem IsN.below {w w' : World} {v : Value} {l : List Int} (h : IsN w v l) (hb : Below w.heap.size w w') : IsN w' v l := by
  obtain ⟨a, cap, rfl, h1, h2, h3, h4⟩ := h
  refine ⟨a, cap, rfl, h1, h2, h3, fun hne => ?_⟩
  obtain ⟨b, off, rfl, hlt, hc⟩ := h4 hne
  exact ⟨b, off, rfl, Nat.lt_of_lt_of_le hlt hb.size, fun i hi => (hb.cell (p := ⟨b, off + i, none⟩) hlt).trans (hc i hi)⟩
theorem IsN.any {w : World} {v : Value} {l : List Int} (h : IsN w v l) : ∃ a c g o, v = .slice a l.length c ∧ l.length ≤ c ∧ c ≤ 9223372036854775807 ∧ (l ≠ [] → a = Option.some ⟨g, o, none⟩ ∧ g < w.heap.size) ∧ ∀ i, i < l.length → w.cell? ⟨g, o + i, none⟩ = Option.some (.int .i64 (l.getD i 0)) := by
  obtain ⟨a, c, e, h1, h2, _, h3⟩ := h
  by_cases hne : l = []
  · subst hne
    exact ⟨a, c, 0, 0, e, h1, h2, fun h => absurd rfl h, by simp⟩
  · obtain ⟨g, o, rfl, hg, hc⟩ := h3 hne
    exact ⟨_, c, g, o, e, h1, h2, fun _ => ⟨rfl, hg⟩, hc⟩
theorem IsN.bounds {w : World} {v : Value} {l : List Int} (h : IsN w v l) : ∀ x ∈ l, -9223372036854775808 ≤ x ∧ x ≤ 9223372036854775807 := by
  obtain ⟨_, _, _, _, _, h3, _⟩ := h; exact h3

/-! ### What valid domains are, in parts that a walk can find out -/
theorem good1 (t : T) : Lx.Good 1 t 0 ↔ ∃ c r, t = c :: r ∧ isLetter c = true ∧ r.all isWord = true ∧ (c :: r).length ≤ 24 := by
  constructor
  · rintro (⟨_, _, c, r, e, h1, h2, h3⟩ | ⟨h, _⟩ | ⟨h, _⟩)
    · subst e; exact ⟨c, r, rfl, h1, h2, h3⟩
    · cases h
    · cases h
  · rintro ⟨c, r, e, h1, h2, h3⟩
    subst e; exact .inl ⟨rfl, rfl, c, r, rfl, h1, h2, h3⟩
/-- What isBounded says. -/
def Bounded (f : Fact) : Prop := (f.kind = 1 ∧ f.lo = 0 ∧ f.hi = 1) ∨ ((f.kind = 2 ∨ f.kind = 3) ∧ 0 ≤ f.lo ∧ f.lo ≤ f.hi ∧ f.hi ≤ 1000000)
theorem ok_iff (f : Fact) : Ok f ↔ Lx.Good 1 f.name 0 ∧ Bounded f := by
  constructor
  · intro h
    refine ⟨h.name, ?_⟩
    rcases h.kind with k | k | k
    · exact .inl ⟨k, h.flag k⟩
    · exact .inr ⟨.inl k, h.low, h.le, h.high⟩
    · exact .inr ⟨.inr k, h.low, h.le, h.high⟩
  · rintro ⟨h1, ⟨k, h2, h3⟩ | ⟨k, h2, h3, h4⟩⟩
    · exact ⟨h1, by omega, by omega, by omega, .inl k, fun _ => ⟨h2, h3⟩⟩
    · exact ⟨h1, h2, h3, h4, .inr k, fun h => by rcases k with k | k <;> omega⟩
/-- The index of the first fact with a name, -1 if there is none. -/
def idx (d : List Fact) (name : T) : Int := match index d name with | some i => (i : Int) | none => -1
theorem idx_some {d : List Fact} {name : T} {i : Nat} (h : index d name = some i) : idx d name = i := by unfold idx; rw [h]
theorem idx_none {d : List Fact} {name : T} (h : index d name = none) : idx d name = -1 := by unfold idx; rw [h]
theorem index_none_iff {d : List Fact} {name : T} : index d name = none ↔ name ∉ d.map (·.name) := by
  unfold index
  rw [List.findIdx?_eq_none_iff]
  constructor
  · intro h hin
    obtain ⟨f, hf, rfl⟩ := List.mem_map.1 hin
    have := h f hf
    simp at this
  · intro h f hf
    rw [beq_eq_false_iff_ne]
    rintro rfl
    exact h (List.mem_map.2 ⟨f, hf, rfl⟩)
theorem index_some_iff {d : List Fact} {name : T} {i : Nat} : index d name = some i ↔ ∃ f, d[i]? = some f ∧ f.name = name ∧ ∀ j, j < i → ∀ g, d[j]? = some g → g.name ≠ name := by
  unfold index
  rw [List.findIdx?_eq_some_iff_getElem]
  constructor
  · rintro ⟨h, h1, h2⟩
    refine ⟨d[i], List.getElem?_eq_getElem h, by simpa using h1, fun j hj g hg => ?_⟩
    obtain ⟨hj2, rfl⟩ := List.getElem?_eq_some_iff.1 hg
    have := h2 j hj
    simpa using this
  · rintro ⟨f, hf, hn, h2⟩
    obtain ⟨h, rfl⟩ := List.getElem?_eq_some_iff.1 hf
    refine ⟨h, by simpa using hn, fun j hj => ?_⟩
    have := h2 j hj d[j] (List.getElem?_eq_getElem (by omega))
    simpa using this
theorem idx_lt {d : List Fact} {name : T} : -1 ≤ idx d name ∧ idx d name < (d.length : Int) := by
  cases h : index d name with
  | none => rw [idx_none h]; omega
  | some i =>
    rw [idx_some h]
    obtain ⟨f, hf, _⟩ := index_some_iff.1 h
    have := (List.getElem?_eq_some_iff.1 hf).1
    omega
/-- A fact that is as it must be, among all. -/
def OkAt (d : List Fact) (i : Nat) : Prop := ∀ f, d[i]? = some f → Lx.Good 1 f.name 0 ∧ Bounded f ∧ ¬ idx d f.name < i
theorem valid_iff (d : List Fact) : Valid d ↔ d.length ≤ 60 ∧ ∀ i, i < d.length → OkAt d i := by
  constructor
  · rintro ⟨h1, h2, h3⟩
    refine ⟨h3, fun i hi f hf => ?_⟩
    have hok := (ok_iff f).1 (h1 f (List.mem_of_getElem? hf))
    refine ⟨hok.1, hok.2, ?_⟩
    rw [idx_some (index_at h2 hf)]; omega
  · rintro ⟨h3, h⟩
    refine ⟨fun f hf => ?_, ?_, h3⟩
    · obtain ⟨i, hi, rfl⟩ := List.getElem_of_mem hf
      obtain ⟨a, b, _⟩ := h i hi _ (List.getElem?_eq_getElem hi)
      exact (ok_iff _).2 ⟨a, b⟩
    · refine List.pairwise_iff_getElem.2 fun i j hi hj hij e => ?_
      rw [List.length_map] at hi hj
      have e : d[i].name = d[j].name := by simpa using e
      obtain ⟨_, _, h3⟩ := h j hj _ (List.getElem?_eq_getElem hj)
      apply h3
      cases hx : index d d[j].name with
      | none => rw [idx_none hx]; omega
      | some k =>
        rw [idx_some hx]
        obtain ⟨_, _, _, hk⟩ := index_some_iff.1 hx
        have : ¬ i < k := fun hik => hk i hik _ (List.getElem?_eq_getElem (by omega)) e
        omega
end Fc
end Go.Proofs.Ytjcaingfeaaakaa
