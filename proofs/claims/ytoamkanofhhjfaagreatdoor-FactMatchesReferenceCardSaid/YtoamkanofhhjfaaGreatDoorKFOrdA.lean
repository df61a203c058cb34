import Derived.Test.YtoamkanofhhjfaaGreatDoorKFCon
/-
  FactOrder: what its loop keeps: a domain and a case that are built from the right.
-/
namespace Go.Proofs.YtoamkanofhhjfaaGreatDoor
open Go.RowKit

namespace Fc
/-- A world that has grown; of the old blocks at most one from base on has turned, which holds elements of type T. -/
def RowOf (T : TypeId) (base : Nat) (w w' : World) : Prop := ∃ row, w.grownBy w' row ∧ ∀ g, row = some g → base ≤ g ∧ ∃ cur fr, w.heap[g]? = some (.cells cur T fr)
theorem RowOf.block {T : TypeId} {base : Nat} {w w' : World} (h : RowOf T base w w') {k : Nat} (hk : k < base) (hl : k < w.heap.size) : w'.heap[k]? = w.heap[k]? := by
  obtain ⟨row, hg, hr⟩ := h
  exact hg.block k hl (fun e => by have := (hr k e.symm).1; omega)
theorem RowOf.below {T : TypeId} {base : Nat} {w w' : World} (h : RowOf T base w w') (hb : base ≤ w.heap.size) : Below base w w' := by
  obtain ⟨row, hg, hr⟩ := h
  exact ((Below.refl w.heap.size w).mono hb).grown hg hb (fun k e => (hr k e).1)
theorem OwnF.row {T : TypeId} {b base : Nat} {l : List Fact} {v : Value} {w w' : World} (h : OwnF b l v w) (hr : RowOf T base w w') (hT : T ≠ 64) : OwnF b l v w' := by
  obtain ⟨row, hg, hr⟩ := hr
  obtain ⟨⟨h1, h2⟩, h3⟩ := h
  refine ⟨⟨h1, ?_⟩, h3⟩
  rcases h2 with hn | ⟨g, cap, cur, e, hb', hgc, rest⟩
  · exact .inl hn
  · refine .inr ⟨g, cap, cur, e, hb', (hg.block g (Array.getElem?_eq_some_iff.1 hgc).1 (fun e2 => ?_)).trans hgc, rest⟩
    obtain ⟨_, c2, fr, h4⟩ := hr g e2.symm
    rw [hgc] at h4
    injection h4 with h4
    injection h4 with _ h5
    exact hT h5.symm
end Fc
theorem OwnE.row {T : TypeId} {b base : Nat} {e : TypeId} {v : Value} {n : Nat} {xs : List Value} {w w' : World} (h : OwnE w b e v n xs) (hr : Fc.RowOf T base w w') (hT : T ≠ e) : OwnE w' b e v n xs := by
  obtain ⟨row, hg, hr⟩ := hr
  rcases h with ⟨h1, h2⟩ | h
  · refine .inl ⟨h1, ?_⟩
    rcases h2 with hn | ⟨g, cap, cur, e2, hb', hgc, rest⟩
    · exact .inl hn
    · refine .inr ⟨g, cap, cur, e2, hb', (hg.block g (Array.getElem?_eq_some_iff.1 hgc).1 (fun e3 => ?_)).trans hgc, rest⟩
      obtain ⟨_, c2, fr, h4⟩ := hr g e3.symm
      rw [hgc] at h4
      injection h4 with h4
      injection h4 with _ h5
      exact hT h5.symm
  · exact .inr h
theorem Fc.OwnF.rowOf {base : Nat} {l : List Fc.Fact} {v : Value} {w w' : World} (h : Fc.OwnF base l v w) (hg : w.grownBy w' v.ownBlock) : Fc.RowOf 64 base w w' := by
  refine ⟨_, hg, fun g e => ?_⟩
  rcases h.1.2 with ⟨h1, _⟩ | ⟨g2, cap, cur, h1, h2, h3, _⟩
  · rw [h1] at e; simp [Value.ownBlock] at e
  · rw [h1] at e
    have : g2 = g := by simpa [Value.ownBlock] using e
    subst this
    exact ⟨h2, cur, _, h3⟩

theorem int_info : (Tryz.prog.info? 3).map (fun i => (i.zero, i.size, i.bytes)) = some (some (.int .i64 0), 1, 8) := by kernel_rfl

set_option maxRecDepth 100000 in
theorem run_append_num (w : World) (base : Nat) (v : Value) (n : Nat) (xs : List Value) (hown : OwnE w base 3 v n xs) (x : Int) (B : Nat) (fr : Nat × Nat) (ty tt : TypeId)
    (hB : w.heap[B]? = some (.cells #[.int .i64 x] ty fr)) (hx : -9223372036854775808 ≤ x ∧ x ≤ 9223372036854775807) (hn : n < 1000000) (hbase : base ≤ w.heap.size) :
    ∃ g c w', (Builtin.append_ #[26, 26] tt #[v, .slice (some ⟨B, 0, none⟩) 1 1]).run Tryz.prog w = .ok (.slice (some ⟨g, 0, none⟩) (n + 1) c) w' ∧ OwnE w' base 3 (.slice (some ⟨g, 0, none⟩) (n + 1) c) (n + 1) (xs ++ [.int .i64 x]) ∧ Fc.RowOf 3 base w w' := by
  obtain ⟨i, hi, hz0, hz1, hz2⟩ := info_parts int_info
  have hN : Fc.IsN w (.slice (some ⟨B, 0, none⟩) 1 1) [x] := ⟨_, 1, rfl, Nat.le_refl _, by decide, by simpa using hx, fun _ => ⟨B, 0, rfl, (Array.getElem?_eq_some_iff.1 hB).1, by
    intro j hj
    obtain rfl : j = 0 := by simpa using hj
    exact Joins.cell_of_block hB 0⟩⟩
  rcases hown with hown | ⟨rfl, rfl, a0, rfl⟩
  · obtain ⟨ax, cx, e, _, _, _, hc⟩ := hN
    obtain ⟨b, off, rfl, _, hc⟩ := hc (by simp)
    have e1 : (b = B ∧ off = 0) ∧ cx = 1 := by simpa using e.symm
    obtain ⟨⟨rfl, rfl⟩, _⟩ := e1
    obtain ⟨g, cap, w', h1, h2, h3, _, _⟩ := run_append_lies (P := Tryz.prog) w 26 tt base 3 i (.int .i64 0) 1 8 Tryz.underlying26 hi hz0 hz1 hz2 rfl (by omega) v n xs hown ⟨b, 0, none⟩ 1 1 [.int .i64 x] rfl (cellN_of (l := [x]) hc) (cellsN_one [x]) (by decide) (by unfold maxLen; omega) (by omega) hbase _ rfl
    refine ⟨g, cap, w', h1, .inl h2, _, h3, fun k hk => ?_⟩
    rcases hown.2 with ⟨h4, _⟩ | ⟨g2, cap2, cur, h4, h5, h6, _⟩
    · rw [h4] at hk; simp [Value.ownBlock] at hk
    · rw [h4] at hk
      have : g2 = k := by simpa [Value.ownBlock] using hk
      subst this
      exact ⟨h5, cur, _, h6⟩
  · obtain ⟨v', w', h1, h2, h3⟩ := run_append_nums (P := Tryz.prog) w 26 tt base 3 i (.int .i64 0) 8 Tryz.underlying26 hi hz0 hz1 hz2 rfl a0 _ [x] hN (by simp) (by simp [maxLen]) (by simp) hbase
    obtain ⟨g, cap, rfl, _, _⟩ := h2.form (by simp)
    exact ⟨g, cap, w', h1, .inl (by simpa [Fc.cellsN] using h2), none, ⟨h3.os, h3.tape, h3.output, h3.size, fun k hk _ => h3.block k hk⟩, fun k hk => by cases hk⟩
/-- In the plain walk. -/
theorem wpList_append_num (w : World) {ops : Array Oper} {rest : List Oper} {o : Oper} {a : Act} {Q : Exit → Act → World → Prop} (hg : o.guard = none) (s y : Operand)
    (hop : o.op = Op.call { callee := Callee.builtin Builtin.append, args := #[s, y], argTypes := #[26, 26] })
    (base : Nat) (v : Value) (n : Nat) (xs : List Value) (hs : a.eval s = v) (hown : OwnE w base 3 v n xs) (x : Int) (B : Nat) (fr : Nat × Nat) (ty : TypeId) (hy : a.eval y = .slice (some ⟨B, 0, none⟩) 1 1)
    (hB : w.heap[B]? = some (.cells #[.int .i64 x] ty fr)) (hx : -9223372036854775808 ≤ x ∧ x ≤ 9223372036854775807) (hn : n < 1000000) (hbase : base ≤ w.heap.size)
    (hK : ∀ g c w', OwnE w' base 3 (.slice (some ⟨g, 0, none⟩) (n + 1) c) (n + 1) (xs ++ [.int .i64 x]) → Fc.RowOf 3 base w w' → wpList Tryz.prog ops Q rest (a.put o.dst (.slice (some ⟨g, 0, none⟩) (n + 1) c)) w') :
    wpList Tryz.prog ops Q (o :: rest) a w := by
  refine wpList_plain hg fun K hK' => ?_
  obtain ⟨g, c, w', hrun, r1, r2⟩ := run_append_num w base v n xs hown x B fr ty o.type hB hx hn hbase
  unfold Oper.wp
  simp [execOp, hop, resolve, invoke, builtin, hs, hy, hrun, Result.andThen]
  exact hK' _ _ (hK g c w' r1 r2)

namespace Fc
/-- What the loop keeps: the first jf facts and the first jn numbers are still to come. -/
structure OSt (w : World) (B : Nat) (d : List Fact) (c : List Int) (v : Value) (jf jn : Nat) (vb vt : Value) (wr : World) : Prop where
  held : Boxed w v wr
  far : w.heap.size < B
  back : wr.heap[B]? = some (.cells #[vb] 24 (0, 0))
  facts : OwnF (B + 1) (d.drop jf).reverse vb wr
  nums : OwnE wr (B + 1) 3 vt (c.drop jn).length (cellsN (c.drop jn).reverse)
theorem OSt.lt {w : World} {B : Nat} {d : List Fact} {c : List Int} {v : Value} {jf jn : Nat} {vb vt : Value} {wr : World} (h : OSt w B d c v jf jn vb vt wr) : B + 1 ≤ wr.heap.size := (Array.getElem?_eq_some_iff.1 h.back).1
theorem OSt.below {w : World} {B : Nat} {d : List Fact} {c : List Int} {v : Value} {jf jn : Nat} {vb vt : Value} {wr w' : World} (h : OSt w B d c v jf jn vb vt wr) (hb : Below wr.heap.size wr w') : OSt w B d c v jf jn vb vt w' :=
  ⟨h.held.next hb, h.far, (hb.block B h.lt).trans h.back, h.facts.below hb, OwnE.below hb h.nums⟩
theorem drop_reverse {α : Type} {l : List α} {j : Nat} {x : α} (h : l[j]? = some x) : (l.drop j).reverse = (l.drop (j + 1)).reverse ++ [x] := by
  obtain ⟨hj, rfl⟩ := List.getElem?_eq_some_iff.1 h
  rw [List.drop_eq_getElem_cons hj, List.reverse_cons]
theorem boxed_low {w wr w' : World} {v : Value} {b : Nat} (h : Boxed w v wr) (hb : Below b wr w') (hlt : w.heap.size < b) : Boxed w v w' :=
  ⟨h.below.trans (hb.mono (by omega)), (hb.cell (p := ⟨w.heap.size, 0, none⟩) hlt).trans h.cell, Nat.lt_of_lt_of_le h.lt hb.size⟩
/-- One fact more, stored. -/
theorem OSt.fact {w : World} {B : Nat} {d : List Fact} {c : List Int} {v : Value} {j jn : Nat} {vb vt : Value} {wr w1 w2 : World} {f : Fact} {v2 : Value} (h : OSt w B d c v (j + 1) jn vb vt wr) (hf : d[j]? = some f)
    (h1 : Below wr.heap.size wr w1) (hown : OwnF (B + 1) ((d.drop (j + 1)).reverse ++ [f]) v2 w2) (hg : w1.grownBy w2 vb.ownBlock) : OSt w B d c v j jn v2 vt (w2.setCell ⟨B, 0, none⟩ v2) := by
  have h := h.below h1
  have hr := h.facts.rowOf hg
  have hb := hr.below h.lt
  have hbB : Below B w1 w2 := hb.mono (by omega)
  have hback := (hr.block (Nat.lt_succ_self B) h.lt).trans h.back
  have hset : Below B w1 (w2.setCell ⟨B, 0, none⟩ v2) := hbB.setCell (p := ⟨B, 0, none⟩) (Nat.le_refl _) _
  refine ⟨boxed_low h.held hset h.far, h.far, ?_, ?_, ?_⟩
  · rw [Joins.block_setCell hback]; rfl
  · rw [drop_reverse hf]
    exact hown.set (a := ⟨B, 0, none⟩) (by show B < B + 1; omega) _
  · have hn := OwnE.row h.nums hr (by decide)
    rcases hn with hn | hn
    · exact .inl (ownsRow_setCell_below hn (a := ⟨B, 0, none⟩) (by show B < B + 1; omega) _)
    · exact .inr hn
/-- One number more. -/
theorem OSt.num {w : World} {B : Nat} {d : List Fact} {c : List Int} {v : Value} {jf j : Nat} {vb vt : Value} {wr w1 w2 : World} {x : Int} {v2 : Value} (h : OSt w B d c v jf (j + 1) vb vt wr) (hx : c[j]? = some x)
    (h1 : Below wr.heap.size wr w1) (hown : OwnE w2 (B + 1) 3 v2 ((c.drop (j + 1)).length + 1) (cellsN (c.drop (j + 1)).reverse ++ [.int .i64 x])) (hr : RowOf 3 (B + 1) w1 w2) : OSt w B d c v jf j vb v2 w2 := by
  have h := h.below h1
  have hb := hr.below h.lt
  refine ⟨boxed_low h.held hb (by have := h.far; omega), h.far, (hr.block (Nat.lt_succ_self B) h.lt).trans h.back, h.facts.row hr (by decide), ?_⟩
  rw [drop_reverse hx]
  obtain ⟨hj, rfl⟩ := List.getElem?_eq_some_iff.1 hx
  have e1 : (c.drop j).length = (c.drop (j + 1)).length + 1 := by rw [List.length_drop, List.length_drop]; omega
  have e2 : cellsN ((c.drop (j + 1)).reverse ++ [c[j]]) = cellsN (c.drop (j + 1)).reverse ++ [.int .i64 c[j]] := by unfold cellsN; rw [List.map_append]; rfl
  rw [e1, e2]
  exact hown
end Fc
end Go.Proofs.YtoamkanofhhjfaaGreatDoor
