/-
  append of a whole slice of texts onto one of the call's own, or an empty one without capacity; of numbers in a plain region.
-/
import Derived.Test.YtjcaingfeaaakaaMRow
import Derived.Test.YtjcaingfeaaakaaFApp
namespace Go.Proofs.Ytjcaingfeaaakaa
open Go.RowKit

namespace Fm
/-- A slice of texts of the call's own, or an empty one without capacity. -/
def OwnQ (base : Nat) (l : List T) (v : Value) (w : World) : Prop := OwnS base l v w ∨ (l = [] ∧ ∃ b, v = .slice b 0 0)
theorem OwnQ.below {base : Nat} {l : List T} {v : Value} {w w' : World} (h : OwnQ base l v w) (hb : Below w.heap.size w w') : OwnQ base l v w' := h.imp (fun h => h.below hb) id
theorem OwnQ.isT {base : Nat} {l : List T} {v : Value} {w : World} (h : OwnQ base l v w) (hs : ∀ t ∈ l, t.length ≤ 9223372036854775807) : IsT w v l := by
  rcases h with h | ⟨rfl, b, rfl⟩
  · exact h.isT hs
  · exact ⟨b, 0, rfl, Nat.le_refl _, by decide, by simp, fun h => absurd rfl h⟩
theorem OwnQ.empty (base : Nat) (b : Option Addr) (w : World) : OwnQ base [] (.slice b 0 0) w := .inr ⟨rfl, b, rfl⟩
/-- The first texts, and the last ones. -/
theorem IsT.cut {w : World} {a : Option Addr} {n c : Nat} {l : List T} (h : IsT w (.slice a n c) l) {k : Nat} (hk : k ≤ l.length) : IsT w (.slice a k c) (l.take k) := by
  obtain ⟨a', c', e, h1, h2, h3, h4⟩ := h
  obtain ⟨rfl, rfl, rfl⟩ : a = a' ∧ n = l.length ∧ c = c' := by simpa using e
  have hl : (l.take k).length = k := by rw [List.length_take]; omega
  refine ⟨a, c, by rw [hl], by omega, h2, fun t ht => h3 t (List.mem_of_mem_take ht), fun hne => ?_⟩
  obtain ⟨g, o, rfl, hg, hc⟩ := h4 (by rintro rfl; simp at hne)
  refine ⟨g, o, rfl, hg, fun i t ht => hc i t ?_⟩
  rw [List.getElem?_take] at ht
  split at ht
  · exact ht
  · cases ht
theorem IsT.rest {w : World} {g o n c : Nat} {l : List T} (h : IsT w (.slice (some ⟨g, o, none⟩) n c) l) {k : Nat} (hk : k ≤ l.length) : IsT w (.slice (some ⟨g, o + k, none⟩) (n - k) (c - k)) (l.drop k) := by
  obtain ⟨a', c', e, h1, h2, h3, h4⟩ := h
  obtain ⟨rfl, rfl, rfl⟩ : some (⟨g, o, none⟩ : Addr) = a' ∧ n = l.length ∧ c = c' := by simpa using e
  refine ⟨_, _, by rw [List.length_drop], by rw [List.length_drop]; omega, by omega, fun t ht => h3 t (List.mem_of_mem_drop ht), fun hne => ?_⟩
  obtain ⟨g', o', e', hg, hc⟩ := h4 (by rintro rfl; simp at hne)
  obtain ⟨rfl, rfl⟩ : g = g' ∧ o = o' := by simpa using e'
  refine ⟨g, o + k, rfl, hg, fun i t ht => ?_⟩
  rw [List.getElem?_drop] at ht
  rw [Nat.add_assoc]
  exact hc _ t ht
end Fm

set_option maxRecDepth 100000 in
theorem run_append_q (w : World) (base : Nat) (l : List Fm.T) (v : Value) (hown : Fm.OwnQ base l v w) (vx : Value) (l2 : List Fm.T) (hx : Fm.IsT w vx l2) (hl : l.length + l2.length < 1000000) (hbase : base ≤ w.heap.size) :
    ∃ a c w', (∀ u, (Builtin.append_ #[30, 30] u #[v, vx]).run Try.prog w = .ok (.slice a (l.length + l2.length) c) w') ∧ Fm.OwnQ base (l ++ l2) (.slice a (l.length + l2.length) c) w' ∧ Below base w w' := by
  obtain ⟨i, hi, hz0, hz1, hz2⟩ := info_parts str_info
  by_cases h0 : l2 = []
  · subst h0
    obtain ⟨ax, cx, rfl, _, _, _, _⟩ := hx
    have key : ∀ (a : Option Addr) (c : Nat), l.length ≤ c → v = .slice a l.length c → ∃ a c w', (∀ u, (Builtin.append_ #[30, 30] u #[v, .slice ax 0 cx]).run Try.prog w = .ok (.slice a (l.length + ([] : List Fm.T).length) c) w') ∧ Fm.OwnQ base (l ++ []) (.slice a (l.length + ([] : List Fm.T).length) c) w' ∧ Below base w w' := fun a c hc e => by
      subst e
      exact ⟨a, c, w, fun u => run_append_none w 30 u 9 i Try.underlying30 hi a ax l.length c cx hc, by rw [List.append_nil]; exact hown, Below.refl _ _⟩
    rcases hown with hown | ⟨rfl, b, rfl⟩
    · rcases hown.2 with ⟨h1, h2⟩ | ⟨g, cap, cur, h1, _, _, h4, _⟩
      · exact key none 0 (by omega) (by rw [h1, h2])
      · exact key _ cap h4 h1
    · exact key b 0 (Nat.le_refl _) rfl
  · obtain ⟨ax, cx, rfl, _, _, _, hc⟩ := hx
    obtain ⟨g, o, rfl, hg, hc⟩ := hc h0
    have hp : 0 < l2.length := by
      rcases Nat.eq_zero_or_pos l2.length with h | h
      · exact absurd (List.length_eq_zero_iff.1 h) h0
      · exact h
    have hnews : ∀ j u, (Fm.cellsS l2)[j]? = some u → w.cell? ((⟨g, o, none⟩ : Addr).add j) = some u := fun j u hu => by
      rw [Fm.cellsS_get] at hu
      rw [Go.WideShapes.add_plain]
      cases hj : l2[j]? with
      | none => rw [hj] at hu; cases hu
      | some t =>
        rw [hj] at hu
        obtain rfl := Option.some.inj hu
        exact hc j t hj
    have hone : ∀ u ∈ Fm.cellsS l2, u.oneCell' = true := fun u hu => by
      obtain ⟨s, _, rfl⟩ := List.mem_map.1 hu
      rfl
    have e1 : (l ++ l2).length = l.length + l2.length := List.length_append
    have e2 : Fm.cellsS (l ++ l2) = Fm.cellsS l ++ Fm.cellsS l2 := List.map_append ..
    rcases hown with hown | ⟨rfl, b, rfl⟩
    · obtain ⟨g', c, w', hr, h2, h3, _, _⟩ := run_append_lies (P := Try.prog) w 30 30 base 9 i _ 1 16 Try.underlying30 hi hz0 hz1 hz2 rfl (by decide) v l.length (Fm.cellsS l) hown ⟨g, o, none⟩ l2.length cx (Fm.cellsS l2) (by rw [Fm.cellsS_len]; omega) hnews hone hp (by unfold maxLen; omega) (by omega) hbase _ rfl
      refine ⟨_, c, w', fun u => by rw [← hr]; rfl, .inl ?_, (Below.refl _ _).grown h3 hbase (fun k hk => (hown.lt k hk.symm).1)⟩
      unfold Fm.OwnS
      rw [e1, e2]
      exact h2
    · obtain ⟨g', c, w', hr, h2, h3, _, _⟩ := run_append_lies (P := Try.prog) w 30 30 base 9 i _ 1 16 Try.underlying30 hi hz0 hz1 hz2 rfl (by decide) (.slice none 0 0) 0 [] (World.ownsRow_nil _ _ _ _) ⟨g, o, none⟩ l2.length cx (Fm.cellsS l2) (by rw [Fm.cellsS_len]; omega) hnews hone hp (by unfold maxLen; simp at hl; omega) (by simp at hl; omega) hbase _ rfl
      rw [List.nil_append] at h2
      refine ⟨_, c, w', fun u => ?_, .inl (by unfold Fm.OwnS; rw [e1, e2]; exact h2), (Below.refl _ _).grown h3 hbase (fun k hk => by cases hk)⟩
      cases b with
      | none => exact hr
      | some b =>
        have hn : ¬ l2.length = 0 := by omega
        have hib : i.bytes = 16 := hz2
        have hno : ¬ (281474976710656 < Builtin.nextslicecap l2.length 0 * i.bytes) := by
          have := growslice_fits (need := l2.length) (old := 0) (bytes := i.bytes) hp (by rw [hib]; simp at hl; omega)
          omega
        rw [List.length_nil, ← hr]
        simp [Builtin.append_, run_underlying Try.underlying30, Builtin.lenOf, Builtin.firstCells, sizeOf, typeInfo, hi, hz1, Result.andThen, loadCells, loadCellsFrom, hn, hno]

/-- At a step of a region that draws its order. -/
theorem step_append_q {ops : Array Oper} {o : Oper} {a : Act} {w : World} {K : Act → World → Prop} {Q : Exit → Act → World → Prop} {E : Prop} (hw : Region.wanted o (yielded ops a.tmps) = true) (s x : Operand)
    (ho : o.op = .call { callee := .builtin .append, args := #[s, x], argTypes := #[30, 30] }) (base : Nat) (l : List Fm.T) (v : Value) (hs : a.eval s = v) (hown : Fm.OwnQ base l v w)
    (vx : Value) (l2 : List Fm.T) (hv : a.eval x = vx) (hx : Fm.IsT w vx l2) (hl : l.length + l2.length < 1000000) (hbase : base ≤ w.heap.size)
    (h : ∀ b c w', Fm.OwnQ base (l ++ l2) (.slice b (l.length + l2.length) c) w' → Below base w w' → K (a.put o.dst (.slice b (l.length + l2.length) c)) w') :
    if Region.wanted o (yielded ops a.tmps) = true then Oper.wp Try.prog o a w K Q else E := by
  rw [if_pos hw]
  obtain ⟨b, c, w', hr, h2, h3⟩ := run_append_q w base l v hown vx l2 hx hl hbase
  unfold Oper.wp execOp
  simp only [ho, resolve, invoke, builtin, Sem.run_bind, Sem.run_pure, Result.andThen_ok, List.map_toArray, List.map_cons, List.map_nil, hs, hv, hr]
  exact h b c w' h2 h3

/-- append of a whole slice of numbers onto an empty slice without capacity, at the list of a plain region's operations. -/
theorem wpList_append_all {P : Program} {ops : Array Oper} {rest : List Oper} {o : Oper} {a : Act} {w : World} {Q : Exit → Act → World → Prop} (hg : o.guard = none) (s x : Operand) (t : TypeId)
    (ho : o.op = .call { callee := .builtin .append, args := #[s, x], argTypes := #[t, t] }) (base : Nat) (e : TypeId) (i : TypeInfo) (z : Value) (bytes : Nat) (ht : P.underlying t = some (.slice e)) (hi : P.info? e = some i) (hz : i.zero = some z)
    (hsize : i.size = 1) (hby : i.bytes = bytes) (hzs : z.cells.size = 1) (a0 : Option Addr) (hs : a.eval s = .slice a0 0 0)
    (vx : Value) (l : List Int) (hv : a.eval x = vx) (hx : Fc.IsN w vx l) (h63 : l.length ≤ maxLen) (hbytes : l.length * bytes ≤ 140737488355328) (hbase : base ≤ w.heap.size)
    (h : ∀ v' w', OwnE w' base e v' l.length (Fc.cellsN l) → Below w.heap.size w w' → wpList P ops Q rest (a.put o.dst v') w') : wpList P ops Q (o :: rest) a w := by
  refine wpList_plain hg fun K hK => ?_
  obtain ⟨v', w', hr, h2, h3⟩ := run_append_all (P := P) w t o.type base e i z bytes ht hi hz hsize hby hzs a0 vx l hx h63 hbytes hbase
  unfold Oper.wp execOp
  simp only [ho, resolve, invoke, builtin, Sem.run_bind, Sem.run_pure, Result.andThen_ok, List.map_toArray, List.map_cons, List.map_nil, hs, hv, hr]
  exact hK _ _ (h v' w' h2 h3)
/-- A row of numbers of the call's own, or an empty one: its form, a cell of it, what it reads as. -/
theorem ownE_isN {W : World} {base : Nat} {v : Value} {l : List Int} (h : OwnE W base 3 v l.length (Fc.cellsN l)) (hb : ∀ x ∈ l, -9223372036854775808 ≤ x ∧ x ≤ 9223372036854775807) : Fc.IsN W v l := by
  rcases h with h | ⟨h1, h2, b, rfl⟩
  · have hh := h
    rcases h.2 with ⟨h1, h2⟩ | ⟨g, cap, cur, rfl, h2, h3, h4, h5, _⟩
    · obtain rfl : l = [] := List.length_eq_zero_iff.1 h2
      exact ⟨none, 0, h1, Nat.le_refl _, by decide, by simp, fun h => absurd rfl h⟩
    · refine ⟨_, cap, rfl, h4, by unfold maxLen at h5; omega, hb, fun _ => ⟨g, 0, rfl, (Array.getElem?_eq_some_iff.1 h3).1, fun i hi => ?_⟩⟩
      rw [Nat.zero_add, hh.cellAt i (by omega)]
      unfold Fc.cellsN
      rw [List.getElem?_map, List.getD_eq_getElem?_getD, List.getElem?_eq_getElem hi]; rfl
  · obtain rfl : l = [] := List.length_eq_zero_iff.1 h1
    exact ⟨b, 0, rfl, Nat.le_refl _, by decide, by simp, fun h => absurd rfl h⟩
theorem ownE_form {W : World} {base : Nat} {e : TypeId} {v : Value} {n : Nat} {xs : List Value} (h : OwnE W base e v n xs) : ∃ a c, v = .slice a n c := by
  rcases h with ⟨_, ⟨h1, h2⟩ | ⟨g, cap, cur, h1, _⟩⟩ | ⟨h1, h2, b, rfl⟩
  · exact ⟨none, 0, by rw [h1, h2]⟩
  · exact ⟨_, _, h1⟩
  · exact ⟨b, 0, by rw [h1]⟩
theorem ownE_some {W : World} {base : Nat} {v : Value} {n : Nat} {xs : List Value} (h : OwnE W base 3 v n xs) (hn : 0 < n) : ∃ r c, v = .slice (Option.some ⟨r, 0, none⟩) n c ∧ base ≤ r ∧ r < W.heap.size ∧ W.ownsRow base 3 1 v n xs := by
  rcases h with h | ⟨h1, _⟩
  · have hh := h
    rcases h.2 with ⟨h1, h2⟩ | ⟨g, cap, cur, h1, h2, h3, _⟩
    · omega
    · exact ⟨g, cap, h1, h2, (Array.getElem?_eq_some_iff.1 h3).1, hh⟩
  · omega
theorem ownE_below {w w' : World} {base : Nat} {e : TypeId} {v : Value} {n : Nat} {xs : List Value} (h : OwnE w base e v n xs) (hb : Below w.heap.size w w') : OwnE w' base e v n xs := h.imp (fun h => own_below h hb) id
theorem ownE_set {w : World} {base : Nat} {r c n : Nat} {l : List Int} (h : w.ownsRow base 3 1 (.slice (some ⟨r, 0, none⟩) n c) n (Fc.cellsN l)) (k : Nat) (x : Int) : OwnE (w.setCell ⟨r, k, none⟩ (.int .i64 x)) base 3 (.slice (some ⟨r, 0, none⟩) n c) n (Fc.cellsN (l.set k x)) := by
  have := (h.stored k (.int .i64 x)).1
  have e : (Fc.cellsN l).set k (.int .i64 x) = Fc.cellsN (l.set k x) := by unfold Fc.cellsN; rw [List.map_set]
  rw [e] at this
  exact .inl this
end Go.Proofs.Ytjcaingfeaaakaa
