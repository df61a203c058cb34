import Derived.Test.YtoamkanofhhjfaaGreatDoorKFName
import Derived.Test.YtoamkanofhhjfaaGreatDoorKELst
import Derived.ArgAppend
/-
  Lists of facts that a call owns; append of one fact onto them.
-/
namespace Go.Proofs.YtoamkanofhhjfaaGreatDoor
open Go.RowKit

namespace Fc
open Lx
def cellsFL (l : List Fact) : List Value := l.flatMap cellsF
theorem cellsFL_len (l : List Fact) : (cellsFL l).length = l.length * 4 := by
  induction l with
  | nil => rfl
  | cons t l ih => rw [cellsFL, List.flatMap_cons, List.length_append, ← cellsFL, ih]; simp [cellsF]; omega
theorem cellsFL_snoc (l : List Fact) (t : Fact) : cellsFL (l ++ [t]) = cellsFL l ++ cellsF t := by
  unfold cellsFL; rw [List.flatMap_append]; simp
theorem cellsFL_get : ∀ (l : List Fact) (i : Nat) (t : Fact), l[i]? = some t → ∀ j, j < 4 → (cellsFL l)[i * 4 + j]? = (cellsF t)[j]?
  | [], i, t, h, j, hj => by simp at h
  | u :: l, 0, t, h, j, hj => by
    have : u = t := by simpa using h
    subst this
    rw [cellsFL, List.flatMap_cons, List.getElem?_append_left (by simp [cellsF]; omega), Nat.zero_mul, Nat.zero_add]
  | u :: l, i + 1, t, h, j, hj => by
    rw [cellsFL, List.flatMap_cons, List.getElem?_append_right (by simp [cellsF]; omega), show (i + 1) * 4 + j - (cellsF u).length = i * 4 + j by simp [cellsF]; omega]
    exact cellsFL_get l i t (by simpa using h) j hj
/-- A slice of facts that the call owns. -/
def OwnF (base : Nat) (l : List Fact) (v : Value) (w : World) : Prop := w.ownsRow base 64 4 v l.length (cellsFL l) ∧ (l = [] → v = .slice none 0 0)
theorem OwnF.nil (w : World) (base : Nat) : OwnF base [] (.slice none 0 0) w := ⟨World.ownsRow_nil _ _ _ _, fun _ => rfl⟩
theorem OwnF.below {base : Nat} {l : List Fact} {v : Value} {w w' : World} (h : OwnF base l v w) (hb : Below w.heap.size w w') : OwnF base l v w' := ⟨own_below h.1 hb, h.2⟩
theorem OwnF.set {base : Nat} {l : List Fact} {v : Value} {w : World} (h : OwnF base l v w) {a : Addr} (ha : a.block < base) (u : Value) : OwnF base l v (w.setCell a u) := ⟨ownsRow_setCell_below h.1 ha u, h.2⟩
/-- It stays while no block from base on is turned. -/
theorem OwnF.kept {base : Nat} {l : List Fact} {v : Value} {w w' : World} (h : OwnF base l v w) (hb : ∀ k, base ≤ k → k < w.heap.size → w'.heap[k]? = w.heap[k]?) : OwnF base l v w' := by
  obtain ⟨⟨h1, h2⟩, h3⟩ := h
  refine ⟨⟨h1, ?_⟩, h3⟩
  rcases h2 with hn | ⟨g, cap, cur, e, hb', hg, rest⟩
  · exact .inl hn
  · exact .inr ⟨g, cap, cur, e, hb', (hb g hb' (Array.getElem?_eq_some_iff.1 hg).1).trans hg, rest⟩
theorem OwnF.isF {base : Nat} {l : List Fact} {v : Value} {w : World} (h : OwnF base l v w) (hs : ∀ f ∈ l, Sized f) : IsF w v l := by
  obtain ⟨hrow, hnil⟩ := h
  rcases hrow.2 with ⟨h1, h2⟩ | ⟨g, cap, cur, h1, h2, h3, h4, h5, _⟩
  · have : l = [] := List.length_eq_zero_iff.1 h2
    subst this
    exact ⟨none, 0, h1, Nat.le_refl _, by omega, by simp, fun h => absurd rfl h⟩
  · refine ⟨_, cap, h1, h4, by unfold maxLen at h5; omega, hs, fun _ => ⟨g, 0, rfl, (Array.getElem?_eq_some_iff.1 h3).1, fun i t ht => ?_⟩⟩
    have hc : ∀ j u, (cellsFL l)[j]? = some u → w.cell? ⟨g, 0 + j, none⟩ = some u := fun j u hu => by
      have := hrow.cells (g := g) (by rw [h1]; rfl) j u hu
      have hadd : (⟨g, 0, none⟩ : Addr).add j = ⟨g, 0 + j, none⟩ := by unfold Addr.add; split <;> simp_all
      rwa [hadd] at this
    refine ⟨hc _ _ (by have := cellsFL_get l i t ht 0 (by omega); rw [Nat.add_zero] at this; exact this), ?_, ?_, ?_⟩
    · have := hc _ _ (cellsFL_get l i t ht 1 (by omega)); rw [Nat.zero_add] at this ⊢; exact this
    · have := hc _ _ (cellsFL_get l i t ht 2 (by omega)); rw [Nat.zero_add] at this ⊢; exact this
    · have := hc _ _ (cellsFL_get l i t ht 3 (by omega)); rw [Nat.zero_add] at this ⊢; exact this
theorem OwnF.form {base : Nat} {l : List Fact} {v : Value} {w : World} (h : OwnF base l v w) : ∃ L : Option Addr × Nat, v = .slice L.1 l.length L.2 := by
  rcases h.1.2 with ⟨h1, h2⟩ | ⟨g, cap, cur, h1, _⟩
  · exact ⟨(none, 0), by rw [h1, h2]⟩
  · exact ⟨(some ⟨g, 0, none⟩, cap), h1⟩
theorem OwnF.mono {base base' : Nat} {l : List Fact} {v : Value} {w : World} (h : OwnF base l v w) (hb : base' ≤ base) : OwnF base' l v w := by
  obtain ⟨⟨h1, h2⟩, h3⟩ := h
  refine ⟨⟨h1, ?_⟩, h3⟩
  rcases h2 with h2 | ⟨g, cap, cur, e, h4, rest⟩
  · exact .inl h2
  · exact .inr ⟨g, cap, cur, e, Nat.le_trans hb h4, rest⟩
theorem OwnF.lt {base : Nat} {l : List Fact} {v : Value} {w : World} (h : OwnF base l v w) : ∀ j, v.ownBlock = some j → base ≤ j := by
  intro j hj
  rcases h.1.2 with ⟨h1, h2⟩ | ⟨g, cap, cur, h1, h2, h3, _⟩
  · rw [h1] at hj; simp [Value.ownBlock] at hj
  · rw [h1] at hj
    have : g = j := by simpa [Value.ownBlock] using hj
    subst this
    exact h2
end Fc

theorem fact_info : (Tryz.prog.info? 64).map (fun i => (i.zero, i.size, i.bytes)) = some (some (.agg #[.string ⟨#[]⟩, .int .i64 0, .int .i64 0, .int .i64 0]), 4, 40) := by kernel_rfl

set_option maxRecDepth 100000 in
theorem run_append_fact (w : World) (base : Nat) (l : List Fc.Fact) (v : Value) (hown : Fc.OwnF base l v w) (t : Fc.Fact) (B : Nat) (fr : Nat × Nat) (ty : TypeId)
    (hB : w.heap[B]? = some (.cells #[.string (Lx.str t.name), .int .i64 t.kind, .int .i64 t.lo, .int .i64 t.hi] ty fr)) (hl : l.length < 1000000) (hbase : base ≤ w.heap.size) :
    ∃ v' w', (∀ u, (Builtin.append_ #[22, 22] u #[v, .slice (some ⟨B, 0, none⟩) 1 1]).run Tryz.prog w = .ok v' w') ∧ Fc.OwnF base (l ++ [t]) v' w' ∧ w.grownBy w' v.ownBlock ∧ (∃ g c, v' = .slice (some ⟨g, 0, none⟩) (l.length + 1) c) := by
  obtain ⟨i, hi, hz0, hz1, hz2⟩ := info_parts fact_info
  obtain ⟨hrow, hnil⟩ := hown
  have hnews : ∀ j u, (Fc.cellsF t)[j]? = some u → w.cell? ((⟨B, 0, none⟩ : Addr).add j) = some u := by
    intro j u hu
    have hadd : (⟨B, 0, none⟩ : Addr).add j = ⟨B, j, none⟩ := by unfold Addr.add; split <;> simp_all
    rw [hadd, cell_of_row w B j _ _ _ hB, ← hu]
    simp [Fc.cellsF]
  have h1 : ∀ u ∈ Fc.cellsF t, u.oneCell' = true := by
    intro u hu
    simp only [Fc.cellsF, List.mem_cons, List.not_mem_nil, or_false] at hu
    rcases hu with rfl | rfl | rfl | rfl <;> rfl
  have key : ∀ u, ∃ v' w', (Builtin.append_ #[22, 22] u #[v, .slice (some ⟨B, 0, none⟩) 1 1]).run Tryz.prog w = .ok v' w' ∧ w'.ownsRow base 64 4 v' (l.length + 1) (Fc.cellsFL l ++ Fc.cellsF t) ∧ w.grownBy w' v.ownBlock ∧
      (v' = .slice none 0 0 ↔ v = .slice none 0 0 ∧ 1 = 0) ∧ (v'.ownBlock = v.ownBlock ∨ v'.ownBlock = some w.heap.size) := fun u =>
    run_append_own_at (P := Tryz.prog) w base 22 u 64 i _ 4 40 Tryz.underlying22 hi hz0 hz1 hz2 rfl (by decide) v l.length (Fc.cellsFL l) hrow ⟨B, 0, none⟩ 1 1 (Fc.cellsF t) rfl hnews h1 (by unfold maxLen; omega) (by omega) hbase
  obtain ⟨v', w', hr, h2, h3, h4, h5⟩ := key 22
  have hlast : (l ++ [t]).length = l.length + 1 := by simp
  obtain ⟨g', c', hg'⟩ : ∃ g c, v' = .slice (some ⟨g, 0, none⟩) (l.length + 1) c := by
    rcases h2.2 with ⟨_, h⟩ | ⟨g, c, _, h, _⟩
    · omega
    · exact ⟨g, c, h⟩
  refine ⟨v', w', fun u => ?_, ⟨?_, fun h => absurd h (by simp)⟩, h3, ⟨g', c', hg'⟩⟩
  · rw [← hr]; rfl
  · rw [hlast, Fc.cellsFL_snoc]; exact h2

/-- As a step of a region that draws. -/
theorem step_append_fact {ops : Array Oper} {o : Oper} {a : Act} {w : World} {K : Act → World → Prop} {Q : Exit → Act → World → Prop} {E : Prop}
    (hg : o.guard = none) (s x : Operand) (hop : o.op = Op.call { callee := Callee.builtin Builtin.append, args := #[s, x], argTypes := #[22, 22] })
    (base : Nat) (l : List Fc.Fact) (v : Value) (hs : a.eval s = v) (hown : Fc.OwnF base l v w) (t : Fc.Fact) (B : Nat) (fr : Nat × Nat) (ty : TypeId) (hx : a.eval x = .slice (some ⟨B, 0, none⟩) 1 1)
    (hB : w.heap[B]? = some (.cells #[.string (Lx.str t.name), .int .i64 t.kind, .int .i64 t.lo, .int .i64 t.hi] ty fr)) (hl : l.length < 1000000) (hbase : base ≤ w.heap.size)
    (hK : ∀ g c w', Fc.OwnF base (l ++ [t]) (.slice (some ⟨g, 0, none⟩) (l.length + 1) c) w' → w.grownBy w' v.ownBlock → K (a.put o.dst (.slice (some ⟨g, 0, none⟩) (l.length + 1) c)) w') :
    if Region.wanted o (yielded ops a.tmps) = true then Oper.wp Tryz.prog o a w K Q else E := by
  have hw : Region.wanted o (yielded ops a.tmps) = true := by simp [Region.wanted, hg]
  rw [if_pos hw]
  obtain ⟨v', w', hrun, r1, r2, g, c, rfl⟩ := run_append_fact w base l v hown t B fr ty hB hl hbase
  unfold Oper.wp
  simp [execOp, hop, resolve, invoke, builtin, hs, hx, hrun, Result.andThen]
  exact hK g c w' r1 r2
/-- .. and in the plain walk. -/
theorem wpList_append_fact (w : World) {ops : Array Oper} {rest : List Oper} {o : Oper} {a : Act} {Q : Exit → Act → World → Prop} (hg : o.guard = none) (s x : Operand)
    (hop : o.op = Op.call { callee := Callee.builtin Builtin.append, args := #[s, x], argTypes := #[22, 22] })
    (base : Nat) (l : List Fc.Fact) (v : Value) (hs : a.eval s = v) (hown : Fc.OwnF base l v w) (t : Fc.Fact) (B : Nat) (fr : Nat × Nat) (ty : TypeId) (hx : a.eval x = .slice (some ⟨B, 0, none⟩) 1 1)
    (hB : w.heap[B]? = some (.cells #[.string (Lx.str t.name), .int .i64 t.kind, .int .i64 t.lo, .int .i64 t.hi] ty fr)) (hl : l.length < 1000000) (hbase : base ≤ w.heap.size)
    (hK : ∀ g c w', Fc.OwnF base (l ++ [t]) (.slice (some ⟨g, 0, none⟩) (l.length + 1) c) w' → w.grownBy w' v.ownBlock → wpList Tryz.prog ops Q rest (a.put o.dst (.slice (some ⟨g, 0, none⟩) (l.length + 1) c)) w') :
    wpList Tryz.prog ops Q (o :: rest) a w := by
  refine wpList_plain hg fun K hK' => ?_
  obtain ⟨v', w', hrun, r1, r2, g, c, rfl⟩ := run_append_fact w base l v hown t B fr ty hB hl hbase
  unfold Oper.wp
  simp [execOp, hop, resolve, invoke, builtin, hs, hx, hrun, Result.andThen]
  exact hK' _ _ (hK g c w' r1 r2)
end Go.Proofs.YtoamkanofhhjfaaGreatDoor
