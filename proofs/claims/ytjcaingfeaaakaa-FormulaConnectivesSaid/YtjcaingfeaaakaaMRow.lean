/-
  Slices of texts that a call owns; append of one text; a set of texts as a map that the call has made.
-/
import Derived.Test.YtjcaingfeaaakaaMTexts
import Derived.Test.YtjcaingfeaaakaaMVisit
import Derived.OwnWalk
import Derived.Laws.OwnMore
import Derived.Deep.AppendLies
import Derived.Maps.AppendAt
import Derived.OwnWalkIn
import Derived.Maps.OwnIn
import Derived.Maps.OwnSet
import Derived.Maps.Views
namespace Go.Proofs.Ytjcaingfeaaakaa
open Go.RowKit Go.Maps

theorem str_info : (Try.prog.info? 9).map (fun i => (i.zero, i.size, i.bytes)) = some (some (.string ⟨#[]⟩), 1, 16) := by kernel_rfl

namespace Fm
open Lx
def cellsS (l : List T) : List Value := l.map fun t => .string (str t)
theorem cellsS_len (l : List T) : (cellsS l).length = l.length := List.length_map ..
theorem cellsS_get (l : List T) (k : Nat) : (cellsS l)[k]? = (l[k]?).map fun t => .string (str t) := by unfold cellsS; rw [List.getElem?_map]
/-- A slice of texts that the call owns, in a block from base on. -/
def OwnS (base : Nat) (l : List T) (v : Value) (w : World) : Prop := w.ownsRow base 9 1 v l.length (cellsS l)
theorem OwnS.nil (w : World) (base : Nat) : OwnS base [] (.slice none 0 0) w := World.ownsRow_nil _ _ _ _
theorem OwnS.form {base : Nat} {l : List T} {v : Value} {w : World} (h : OwnS base l v w) : ∃ a c, v = .slice a l.length c := by
  rcases h.2 with ⟨h1, h2⟩ | ⟨g, cap, cur, h1, _⟩
  · exact ⟨none, 0, by rw [h1, h2]⟩
  · exact ⟨_, _, h1⟩
theorem OwnS.lt {base : Nat} {l : List T} {v : Value} {w : World} (h : OwnS base l v w) : ∀ k, some k = v.ownBlock → base ≤ k ∧ ∃ cs, w.heap[k]? = some (.cells cs 9 (0, 0)) := by
  rcases h.2 with ⟨rfl, _⟩ | ⟨g, cap, cur, rfl, hb, hg, _⟩
  · intro k hk; simp [Value.ownBlock] at hk
  · intro k hk
    obtain rfl : k = g := by simpa [Value.ownBlock] using hk
    exact ⟨hb, cur, hg⟩
theorem OwnS.block {base : Nat} {l : List T} {v : Value} {w w' : World} (h : OwnS base l v w) (hb : ∀ k, some k = v.ownBlock → w'.heap[k]? = w.heap[k]?) : OwnS base l v w' := by
  refine ⟨h.1, ?_⟩
  rcases h.2 with hn | ⟨g, cap, cur, rfl, hb', hg, rest⟩
  · exact .inl hn
  · exact .inr ⟨g, cap, cur, rfl, hb', (hb g rfl).trans hg, rest⟩
theorem OwnS.below {base : Nat} {l : List T} {v : Value} {w w' : World} (h : OwnS base l v w) (hb : Below w.heap.size w w') : OwnS base l v w' :=
  h.block fun k hk => by obtain ⟨_, cs, hc⟩ := h.lt k hk; exact hb.block k (Array.getElem?_eq_some_iff.1 hc).1
theorem OwnS.mono {base base' : Nat} {l : List T} {v : Value} {w : World} (h : OwnS base l v w) (hb : base' ≤ base) : OwnS base' l v w := by
  refine ⟨h.1, ?_⟩
  rcases h.2 with hn | ⟨g, cap, cur, e, h4, rest⟩
  · exact .inl hn
  · exact .inr ⟨g, cap, cur, e, Nat.le_trans hb h4, rest⟩
theorem OwnS.kept {base : Nat} {l : List T} {v : Value} {W W' : World} {row : Option Nat} (h : OwnS base l v W) (hg : W.grownBy W' row) (hr : ∀ r, row = some r → ∃ o : Obj, W.heap[r]? = some o ∧ o.isCells = false) : OwnS base l v W' :=
  h.block fun k hk => by obtain ⟨_, cs, hc⟩ := h.lt k hk; exact (cells_kept hc hg hr).trans hc.symm
/-- It is read. -/
theorem OwnS.isT {base : Nat} {l : List T} {v : Value} {w : World} (h : OwnS base l v w) (hs : ∀ t ∈ l, t.length ≤ 9223372036854775807) : IsT w v l := by
  have hh := h
  rcases h.2 with ⟨h1, h2⟩ | ⟨g, cap, cur, rfl, hb, hg, h4, h5, _⟩
  · obtain rfl : l = [] := List.length_eq_zero_iff.1 h2
    subst h1; exact IsT.nil w
  · refine ⟨_, cap, rfl, h4, by unfold maxLen at h5; omega, hs, fun _ => ⟨g, 0, rfl, (Array.getElem?_eq_some_iff.1 hg).1, fun i t ht => ?_⟩⟩
    have hil := (List.getElem?_eq_some_iff.1 ht).1
    rw [Nat.zero_add, World.ownsRow.cellAt hh i (by omega), cellsS_get, ht]; rfl
/-- What is no text lies as it lay. -/
def Ns (W W' : World) : Prop := W.heap.size ≤ W'.heap.size ∧ ∀ (k : Nat) (cs : Array Value) (t : TypeId) (fr : Nat × Nat), W.heap[k]? = some (Obj.cells cs t fr) → t ≠ 9 → W'.heap[k]? = some (Obj.cells cs t fr)
theorem Ns.refl (W : World) : Ns W W := ⟨Nat.le_refl _, fun _ _ _ _ h _ => h⟩
theorem Ns.trans {A B C : World} (h : Ns A B) (k : Ns B C) : Ns A C := ⟨Nat.le_trans h.1 k.1, fun i cs t fr hi ht => k.2 i cs t fr (h.2 i cs t fr hi ht) ht⟩
theorem Ns.of {A B : World} (h : Below A.heap.size A B) : Ns A B := ⟨h.size, fun i _ _ _ hi _ => (h.block i (Array.getElem?_eq_some_iff.1 hi).1).trans hi⟩
theorem Ns.grown {A B : World} {base : Nat} {l : List T} {v : Value} (ho : OwnS base l v A) (h : A.grownBy B v.ownBlock) : Ns A B := ⟨h.size, fun i cs t fr hi ht => by
  refine (h.block i (Array.getElem?_eq_some_iff.1 hi).1 fun e => ?_).trans hi
  obtain ⟨_, cs2, hc⟩ := ho.lt i e
  rw [hi] at hc
  cases hc
  exact ht rfl⟩
theorem OwnS.grownBelow {A B : World} {base : Nat} {l : List T} {v : Value} (ho : OwnS base l v A) (hb : base ≤ A.heap.size) (h : A.grownBy B v.ownBlock) : Below base A B := (Below.refl _ _).grown h hb (fun k hk => (ho.lt k hk.symm).1)
end Fm

set_option maxRecDepth 100000 in
theorem run_append_s (w : World) (base : Nat) (l : List Fm.T) (v : Value) (hown : Fm.OwnS base l v w) (x : Fm.T) (B : Nat) (fr : Nat × Nat) (ty : TypeId)
    (hB : w.heap[B]? = some (.cells #[.string (Lx.str x)] ty fr)) (hl : l.length < 1000000) (hbase : base ≤ w.heap.size) :
    ∃ g c w', (∀ u, (Builtin.append_ #[30, 30] u #[v, .slice (some ⟨B, 0, none⟩) 1 1]).run Try.prog w = .ok (.slice (some ⟨g, 0, none⟩) (l.length + 1) c) w') ∧ Fm.OwnS base (l ++ [x]) (.slice (some ⟨g, 0, none⟩) (l.length + 1) c) w' ∧ w.grownBy w' v.ownBlock := by
  obtain ⟨i, hi, hz0, hz1, hz2⟩ := info_parts str_info
  have hnews : ∀ j u, ([Value.string (Lx.str x)])[j]? = some u → w.cell? ((⟨B, 0, none⟩ : Addr).add j) = some u := World.news_of_block hB
  obtain ⟨g, c, w', hr, h2, h3, _, _⟩ := run_append_lies (P := Try.prog) w 30 30 base 9 i _ 1 16 Try.underlying30 hi hz0 hz1 hz2 rfl (by decide) v l.length (Fm.cellsS l) hown ⟨B, 0, none⟩ 1 1 [.string (Lx.str x)] rfl hnews (by intro u hu; rw [List.mem_singleton] at hu; subst hu; rfl) (by decide) (by unfold maxLen; omega) (by omega) hbase _ rfl
  refine ⟨g, c, w', fun u => by rw [← hr]; rfl, ?_, h3⟩
  have e : (l ++ [x]).length = l.length + 1 := by simp
  unfold Fm.OwnS
  rw [e, show Fm.cellsS (l ++ [x]) = Fm.cellsS l ++ [.string (Lx.str x)] by unfold Fm.cellsS; simp]
  exact h2
/-- At the list of a region's operations, within a fence. -/
theorem wpListIn_append_s {F : Fence} {n : Nat} (w : World) {ops : Array Oper} {rest : List Oper} {o : Oper} {a : Act} {Q : Exit → Act → World → Prop} (hg : o.guard = none) (s x : Operand)
    (hop : o.op = Op.call { callee := Callee.builtin Builtin.append, args := #[s, x], argTypes := #[30, 30] })
    (base : Nat) (l : List Fm.T) (v : Value) (hs : a.eval s = v) (hown : Fm.OwnS base l v w) (t : Fm.T) (B : Nat) (fr : Nat × Nat) (ty : TypeId) (hx : a.eval x = .slice (some ⟨B, 0, none⟩) 1 1)
    (hB : w.heap[B]? = some (.cells #[.string (Lx.str t)] ty fr)) (hl : l.length < 1000000) (hbase : base ≤ w.heap.size)
    (hK : ∀ g c w', Fm.OwnS base (l ++ [t]) (.slice (some ⟨g, 0, none⟩) (l.length + 1) c) w' → w.grownBy w' v.ownBlock → wpListIn F n Try.prog ops Q rest (a.put o.dst (.slice (some ⟨g, 0, none⟩) (l.length + 1) c)) w') :
    wpListIn F n Try.prog ops Q (o :: rest) a w := by
  refine wpListIn_plain hg fun K hK' => ?_
  obtain ⟨g, c, w', hrun, r1, r2⟩ := run_append_s w base l v hown t B fr ty hB hl hbase
  unfold Oper.wpIn
  refine ⟨?_, ?_⟩
  · simp [Oper.about, hop, resolve, Target.leads, Sem.run_pure]
  · rw [Oper.semAt_plain F _ _ (by rw [hop]; intro c hc'; cases hc')]
    simp [execOp, hop, resolve, invoke, builtin, hs, hx, hrun, Result.andThen]
    exact hK' _ _ (hK g c w' r1 r2)
/-- .. and in the plain walk. -/
theorem wpList_append_s (w : World) {ops : Array Oper} {rest : List Oper} {o : Oper} {a : Act} {Q : Exit → Act → World → Prop} (hg : o.guard = none) (s x : Operand)
    (hop : o.op = Op.call { callee := Callee.builtin Builtin.append, args := #[s, x], argTypes := #[30, 30] })
    (base : Nat) (l : List Fm.T) (v : Value) (hs : a.eval s = v) (hown : Fm.OwnS base l v w) (t : Fm.T) (B : Nat) (fr : Nat × Nat) (ty : TypeId) (hx : a.eval x = .slice (some ⟨B, 0, none⟩) 1 1)
    (hB : w.heap[B]? = some (.cells #[.string (Lx.str t)] ty fr)) (hl : l.length < 1000000) (hbase : base ≤ w.heap.size)
    (hK : ∀ g c w', Fm.OwnS base (l ++ [t]) (.slice (some ⟨g, 0, none⟩) (l.length + 1) c) w' → w.grownBy w' v.ownBlock → wpList Try.prog ops Q rest (a.put o.dst (.slice (some ⟨g, 0, none⟩) (l.length + 1) c)) w') :
    wpList Try.prog ops Q (o :: rest) a w := by
  refine wpList_plain hg fun K hK' => ?_
  obtain ⟨g, c, w', hrun, r1, r2⟩ := run_append_s w base l v hown t B fr ty hB hl hbase
  unfold Oper.wp
  simp [execOp, hop, resolve, invoke, builtin, hs, hx, hrun, Result.andThen]
  exact hK' _ _ (hK g c w' r1 r2)

theorem fmKeyed : Keyed Try.prog 9 := string_keyed Try.underlying9
theorem fmZeroBool (w : World) : (zeroValue 4).run Try.prog w = .ok (.bool false) w := by kernel_rfl
theorem fmElem_inv {P : Program} {e : TypeId} (he : P.underlying e = some .bool) {v : Value} {z : DataW Unit × List MemPlace} (h : plainElem P e v = some z) : ∃ x, v = .bool x ∧ z = (.lit (.bool x), []) := by
  unfold plainElem at h
  rw [he] at h
  cases v <;> simp at h
  exact ⟨_, rfl, h.symm⟩
namespace Fm
/-- Block b is a map with just the texts of a list, each with true; it has at most n entries. -/
def IsSet (w : World) (b n : Nat) (l : List T) : Prop :=
  ∃ D : DataW Unit, w.ownsMap Try.prog 9 (plainElem Try.prog 4) b n D ∧ ∀ x : T, D.atKey (.string x) (.lit (.bool false)) = .lit (.bool (has l x))
theorem IsSet.made (w : World) : IsSet (w.alloc (.map #[] 0)) w.heap.size 0 [] := ⟨.map [], World.ownsMap_made _ _ _ _, fun _ => by simp [has]; rfl⟩
theorem IsSet.lt {w : World} {b n : Nat} {l : List T} (h : IsSet w b n l) : b < w.heap.size := by obtain ⟨D, h, _⟩ := h; exact h.lt
theorem IsSet.kept {w w' : World} {b n : Nat} {l : List T} {row : Option Nat} (h : IsSet w b n l) (hg : w.grownBy w' row) (hne : some b ≠ row) : IsSet w' b n l := by
  obtain ⟨D, h1, h2⟩ := h; exact ⟨D, h1.kept hg hne, h2⟩
theorem IsSet.below {w w' : World} {b n : Nat} {l : List T} (h : IsSet w b n l) (hb : Below w.heap.size w w') : IsSet w' b n l :=
  h.kept (row := none) ⟨hb.os, hb.tape, hb.output, hb.size, fun k hk _ => hb.block k hk⟩ (by simp)
theorem IsSet.setCell {w : World} {b n : Nat} {l : List T} (h : IsSet w b n l) {a : Addr} (ha : b ≠ a.block) (u : Value) : IsSet (w.setCell a u) b n l := by
  obtain ⟨D, h1, h2⟩ := h; exact ⟨D, h1.setCell ha u, h2⟩
theorem IsSet.block {w : World} {b n : Nat} {l : List T} (h : IsSet w b n l) : ∃ o : Obj, w.heap[b]? = some o ∧ o.isCells = false := by
  obtain ⟨D, ⟨es, clock, h1, _⟩, _⟩ := h
  exact ⟨_, h1, rfl⟩
theorem IsSet.look {w : World} {b n : Nat} {l : List T} (h : IsSet w b n l) (x : T) (hx : x.length ≤ 9223372036854775807) :
    (Instr.lookup 68 (.map (some b)) (.string (Lx.str x)) false).run Try.prog w = .ok (.bool (has l x)) w := by
  obtain ⟨D, h1, h2⟩ := h
  obtain ⟨v, ps, hrun, hv⟩ := h1.lookup fmKeyed Try.underlying68 (fmZeroBool w) (plainElem_bool Try.underlying4 false) (Go.WideMaps.keyOf_string_mk Try.underlying9 (s := Lx.str x) (by rw [Lx.str_size]; unfold maxLen; omega))
  rw [show (Lx.str x).data.toList = x from Lx.tx_str x, h2 x] at hv
  obtain ⟨y, rfl, hy⟩ := fmElem_inv Try.underlying4 hv
  simp only [Prod.mk.injEq, DataW.lit.injEq, Lit.bool.injEq] at hy
  rw [hrun, hy.1]
theorem IsSet.put {w : World} {b n : Nat} {l : List T} (h : IsSet w b n l) (hn : n < maxLen) (x : T) (hx : x.length ≤ 9223372036854775807) :
    ∃ w', (Instr.mapUpdate 68 (.map (some b)) (.string (Lx.str x)) (.bool true)).run Try.prog w = .ok () w' ∧ IsSet w' b (n + 1) (l ++ [x]) ∧ w.grownBy w' (some b) := by
  obtain ⟨D, h1, h2⟩ := h
  obtain ⟨w', hrun, hown, hg⟩ := h1.update fmKeyed Try.underlying68 hn (Go.WideMaps.keyOf_string_mk Try.underlying9 (s := Lx.str x) (by rw [Lx.str_size]; unfold maxLen; omega)) (plainElem_bool Try.underlying4 true)
  rw [show (Lx.str x).data.toList = x from Lx.tx_str x] at hown
  refine ⟨w', hrun, ⟨_, hown, fun y => ?_⟩, hg⟩
  by_cases e : y = x
  · subst e
    rw [Maps.atKey_put_same h1.isMap (by simp [WideAt.IsKeyLit])]
    simp [has]
  · rw [Maps.atKey_put_other (by simpa using e), h2 y]
    simp [has, e]
end Fm
end Go.Proofs.Ytjcaingfeaaakaa
