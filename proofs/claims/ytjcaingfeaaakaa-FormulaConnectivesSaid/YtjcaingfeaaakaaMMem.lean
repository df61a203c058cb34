/-
  Formulas in memory: a node's kids lie in a slice; a tree that is read.
-/
import Derived.Test.YtjcaingfeaaakaaFMem
import Derived.Test.YtjcaingfeaaakaaMCheck
import Derived.Lib.SmallJoins
namespace Go.Proofs.Ytjcaingfeaaakaa
open Go.RowKit

namespace Fm
open Lx
abbrev T := List UInt8
def Fo.cmp : Fo → Int | .mk _ _ c _ _ => c
def Fo.num : Fo → Int | .mk _ _ _ n _ => n
def I64 (x : Int) : Prop := -9223372036854775808 ≤ x ∧ x ≤ 9223372036854775807
/-- What a node's own fields are, whatever it is. -/
def Sized (f : Fo) : Prop := I64 f.op ∧ f.name.length ≤ 9223372036854775807 ∧ I64 f.cmp ∧ I64 f.num
/-- The value of a node whose kids are u. -/
abbrev fv (f : Fo) (u : Value) : Value := .agg #[.int .i64 f.op, .string (str f.name), .int .i64 f.cmp, .int .i64 f.num, u]
mutual
/-- The tree f is read where its root's kids are u. -/
def At (w : World) : Fo → Value → Prop
  | .mk o x c n ks, u => Sized (.mk o x c n []) ∧ ∃ a cap, u = .slice a ks.length cap ∧ ks.length ≤ cap ∧ cap ≤ 9223372036854775807 ∧ (ks ≠ [] → ∃ g i, a = some ⟨g, i, none⟩ ∧ g < w.heap.size ∧ Row w ks g i)
/-- Formulas one behind the other. -/
def Row (w : World) : List Fo → Nat → Nat → Prop
  | [], _, _ => True
  | k :: ks, g, i => (w.cell? ⟨g, i, none⟩ = some (.int .i64 k.op) ∧ w.cell? ⟨g, i + 1, none⟩ = some (.string (str k.name)) ∧ w.cell? ⟨g, i + 2, none⟩ = some (.int .i64 k.cmp) ∧ w.cell? ⟨g, i + 3, none⟩ = some (.int .i64 k.num)) ∧
    (∃ u, w.cell? ⟨g, i + 4, none⟩ = some u ∧ At w k u) ∧ Row w ks g (i + 5)
end
/-- A slice of formulas that is read. -/
def IsK (w : World) (u : Value) (ks : List Fo) : Prop := ∃ a cap, u = .slice a ks.length cap ∧ ks.length ≤ cap ∧ cap ≤ 9223372036854775807 ∧ (ks ≠ [] → ∃ g i, a = some ⟨g, i, none⟩ ∧ g < w.heap.size ∧ Row w ks g i)
theorem at_iff {w : World} {f : Fo} {u : Value} : At w f u ↔ Sized f ∧ IsK w u f.kids := by
  obtain ⟨o, x, c, n, ks⟩ := f
  rw [At]; rfl
theorem Row.get {w : World} : ∀ {ks : List Fo} {g i : Nat}, Row w ks g i → ∀ j k, ks[j]? = some k →
    (w.cell? ⟨g, i + j * 5, none⟩ = some (.int .i64 k.op) ∧ w.cell? ⟨g, i + j * 5 + 1, none⟩ = some (.string (str k.name)) ∧ w.cell? ⟨g, i + j * 5 + 2, none⟩ = some (.int .i64 k.cmp) ∧ w.cell? ⟨g, i + j * 5 + 3, none⟩ = some (.int .i64 k.num)) ∧
    ∃ u, w.cell? ⟨g, i + j * 5 + 4, none⟩ = some u ∧ At w k u
  | [], _, _, _, j, k, h => by simp at h
  | a :: ks, g, i, hr, 0, k, h => by
    rw [Row] at hr
    obtain rfl : a = k := by simpa using h
    simpa using ⟨hr.1, hr.2.1⟩
  | a :: ks, g, i, hr, j + 1, k, h => by
    rw [Row] at hr
    have h2 : ks[j]? = some k := by simpa using h
    have := hr.2.2.get j k h2
    rwa [show i + (j + 1) * 5 = i + 5 + j * 5 by omega]
theorem Row.of {w : World} : ∀ {ks : List Fo} {g i : Nat}, (∀ j k, ks[j]? = some k →
    (w.cell? ⟨g, i + j * 5, none⟩ = some (.int .i64 k.op) ∧ w.cell? ⟨g, i + j * 5 + 1, none⟩ = some (.string (str k.name)) ∧ w.cell? ⟨g, i + j * 5 + 2, none⟩ = some (.int .i64 k.cmp) ∧ w.cell? ⟨g, i + j * 5 + 3, none⟩ = some (.int .i64 k.num)) ∧
    ∃ u, w.cell? ⟨g, i + j * 5 + 4, none⟩ = some u ∧ At w k u) → Row w ks g i
  | [], _, _, _ => by rw [Row]; trivial
  | a :: ks, g, i, h => by
    rw [Row]
    have h0 := h 0 a rfl
    simp only [Nat.zero_mul, Nat.add_zero] at h0
    refine ⟨h0.1, h0.2, Row.of fun j k hk => ?_⟩
    have := h (j + 1) k (by simpa using hk)
    rwa [show i + (j + 1) * 5 = i + 5 + j * 5 by omega] at this
mutual
theorem At.kept {w w' : World} {B : Nat} (hz : B ≤ w'.heap.size) (hb : ∀ g i, g < B → w'.cell? ⟨g, i, none⟩ = w.cell? ⟨g, i, none⟩) (hB : w.heap.size ≤ B) : ∀ (f : Fo) (u : Value), At w f u → At w' f u
  | .mk o x c n ks, u, h => by
    rw [At] at h ⊢
    obtain ⟨hs, a, cap, e, h1, h2, h3⟩ := h
    refine ⟨hs, a, cap, e, h1, h2, fun hne => ?_⟩
    obtain ⟨g, i, e2, hg, hr⟩ := h3 hne
    exact ⟨g, i, e2, by omega, Row.kept hz hb hB ks g i (by omega) hr⟩
theorem Row.kept {w w' : World} {B : Nat} (hz : B ≤ w'.heap.size) (hb : ∀ g i, g < B → w'.cell? ⟨g, i, none⟩ = w.cell? ⟨g, i, none⟩) (hB : w.heap.size ≤ B) : ∀ (ks : List Fo) (g i : Nat), g < B → Row w ks g i → Row w' ks g i
  | [], _, _, _, _ => by rw [Row]; trivial
  | k :: ks, g, i, hg, h => by
    rw [Row] at h ⊢
    obtain ⟨⟨p0, p1, p2, p3⟩, ⟨u, p4, hu⟩, hr⟩ := h
    exact ⟨⟨(hb g _ hg).trans p0, (hb g _ hg).trans p1, (hb g _ hg).trans p2, (hb g _ hg).trans p3⟩, ⟨u, (hb g _ hg).trans p4, At.kept hz hb hB k u hu⟩, Row.kept hz hb hB ks g (i + 5) hg hr⟩
end
theorem At.below {w w' : World} {f : Fo} {u : Value} (h : At w f u) (hb : Below w.heap.size w w') : At w' f u :=
  At.kept (B := w.heap.size) hb.size (fun g i hg => hb.cell (p := ⟨g, i, none⟩) hg) (Nat.le_refl _) f u h
theorem IsK.below {w w' : World} {u : Value} {ks : List Fo} (h : IsK w u ks) (hb : Below w.heap.size w w') : IsK w' u ks := by
  obtain ⟨a, cap, e, h1, h2, h3⟩ := h
  refine ⟨a, cap, e, h1, h2, fun hne => ?_⟩
  obtain ⟨g, i, e2, hg, hr⟩ := h3 hne
  exact ⟨g, i, e2, Nat.lt_of_lt_of_le hg hb.size, Row.kept (B := w.heap.size) hb.size (fun g i hg => hb.cell (p := ⟨g, i, none⟩) hg) (Nat.le_refl _) ks g i hg hr⟩
theorem IsK.nil (w : World) : IsK w (.slice none 0 0) [] := ⟨none, 0, rfl, Nat.le_refl _, by decide, fun h => absurd rfl h⟩
/-- One form for a slice of formulas, empty or not: what a walk reads. -/
theorem IsK.any {w : World} {v : Value} {l : List Fo} (h : IsK w v l) : ∃ a c g o, v = .slice a l.length c ∧ l.length ≤ c ∧ c ≤ 9223372036854775807 ∧ (l ≠ [] → a = some ⟨g, o, none⟩ ∧ g < w.heap.size) ∧ ∀ i k, l[i]? = some k →
    ∃ u, w.cell? ⟨g, o + i * 5, none⟩ = some (.int .i64 k.op) ∧ w.cell? ⟨g, o + i * 5 + 1, none⟩ = some (.string (str k.name)) ∧ w.cell? ⟨g, o + i * 5 + 2, none⟩ = some (.int .i64 k.cmp) ∧ w.cell? ⟨g, o + i * 5 + 3, none⟩ = some (.int .i64 k.num) ∧ w.cell? ⟨g, o + i * 5 + 4, none⟩ = some u ∧ At w k u := by
  obtain ⟨a, c, e, h1, h2, h3⟩ := h
  by_cases hne : l = []
  · subst hne
    exact ⟨a, c, 0, 0, e, h1, h2, fun h => absurd rfl h, by simp⟩
  · obtain ⟨g, o, rfl, hg, hr⟩ := h3 hne
    refine ⟨_, c, g, o, e, h1, h2, fun _ => ⟨rfl, hg⟩, fun i k hk => ?_⟩
    obtain ⟨⟨p0, p1, p2, p3⟩, u, p4, hu⟩ := hr.get i k hk
    exact ⟨u, p0, p1, p2, p3, p4, hu⟩
theorem At.kidsAt {w : World} {f : Fo} {u : Value} (h : At w f u) : IsK w u f.kids := (at_iff.1 h).2
theorem At.sized {w : World} {f : Fo} {u : Value} (h : At w f u) : Sized f := (at_iff.1 h).1
/-- The first formulas of a row are a row. -/
theorem IsK.len {w : World} {u : Value} {ks : List Fo} (h : IsK w u ks) : ∃ a c, u = .slice a ks.length c ∧ ks.length ≤ c ∧ c ≤ 9223372036854775807 := by
  obtain ⟨a, c, e, h1, h2, _⟩ := h; exact ⟨a, c, e, h1, h2⟩
theorem size_eq (f : Fo) : size f = 1 + sizeL f.kids := by obtain ⟨o, x, c, n, ks⟩ := f; rw [size]; rfl
theorem depth_eq (f : Fo) : depth f = 1 + depthL f.kids := by obtain ⟨o, x, c, n, ks⟩ := f; rw [depth]; rfl
theorem sizeL_get {ks : List Fo} {i : Nat} {k : Fo} (h : ks[i]? = some k) : sizeL (ks.drop i) = size k + sizeL (ks.drop (i + 1)) := by
  obtain ⟨hi, rfl⟩ := List.getElem?_eq_some_iff.1 h
  rw [List.drop_eq_getElem_cons hi, sizeL]
theorem sizeL_append : ∀ (a b : List Fo), sizeL (a ++ b) = sizeL a + sizeL b
  | [], b => by rw [sizeL]; simp
  | k :: a, b => by rw [List.cons_append, sizeL, sizeL, sizeL_append a b]; omega
theorem sizeL_split (ks : List Fo) (i : Nat) : sizeL ks = sizeL (ks.take i) + sizeL (ks.drop i) := by rw [← sizeL_append, List.take_append_drop]
theorem sizeL_take {ks : List Fo} {i : Nat} {k : Fo} (h : ks[i]? = some k) : sizeL (ks.take (i + 1)) = sizeL (ks.take i) + size k := by
  have h1 := sizeL_split ks i
  have h2 := sizeL_split ks (i + 1)
  have h3 := sizeL_get h
  omega
theorem len_sizeL : ∀ ks : List Fo, ks.length ≤ sizeL ks
  | [] => by rw [sizeL]; exact Nat.le_refl _
  | k :: ks => by rw [sizeL, List.length_cons]; have := size_pos k; have := len_sizeL ks; omega
end Fm
end Go.Proofs.Ytjcaingfeaaakaa
