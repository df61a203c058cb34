/-
  append of a whole slice of numbers onto an empty slice without capacity, and of one number behind it.
-/
import Derived.Test.YtjcaingfeaaakaaFNums
import Derived.Deep.RegionHeld3
import Derived.Deep.AppendLies
import Derived.Laws.OwnMore
namespace Go.Proofs.Ytjcaingfeaaakaa
open Go.RowKit

theorem run_append_none {P : Program} (w : World) (t ty e : TypeId) (i : TypeInfo) (ht : P.underlying t = some (.slice e)) (hi : P.info? e = some i) (base ax : Option Addr) (n cap cx : Nat) (h : n ≤ cap) :
    (Builtin.append_ #[t, t] ty #[.slice base n cap, .slice ax 0 cx]).run P w = .ok (.slice base n cap) w := by
  cases base <;> cases ax <;> simp [Builtin.append_, run_underlying ht, Builtin.lenOf, Builtin.firstCells, sizeOf, typeInfo, hi, h, Result.andThen, loadCells, loadCellsFrom, storeCells]
theorem cellN_of {l : List Int} {w : World} {b off : Nat} (hc : ∀ i, i < l.length → w.cell? ⟨b, off + i, none⟩ = some (.int .i64 (l.getD i 0))) : ∀ j u, (Fc.cellsN l)[j]? = some u → w.cell? (Addr.add ⟨b, off, none⟩ j) = some u := by
  intro j u hu
  rw [Go.WideShapes.add_plain]
  unfold Fc.cellsN at hu
  rw [List.getElem?_map] at hu
  by_cases hj : j < l.length
  · rw [List.getElem?_eq_getElem hj] at hu
    have : u = .int .i64 l[j] := (Option.some.inj hu).symm
    rw [hc j hj, this, List.getD_eq_getElem?_getD, List.getElem?_eq_getElem hj]
    rfl
  · rw [List.getElem?_eq_none (by omega)] at hu; cases hu
theorem cellsN_one (l : List Int) : ∀ u ∈ Fc.cellsN l, u.oneCell' = true := by
  intro u hu
  obtain ⟨s, _, rfl⟩ := List.mem_map.1 hu
  rfl
theorem cellsN_len (l : List Int) : (Fc.cellsN l).length = l.length := List.length_map ..
/-- Onto an empty slice without capacity: as onto nil. -/
theorem run_append_nums {P : Program} (w : World) (t ty : TypeId) (base : Nat) (e : TypeId) (i : TypeInfo) (z : Value) (bytes : Nat) (ht : P.underlying t = some (.slice e)) (hi : P.info? e = some i) (hz : i.zero = some z)
    (hsize : i.size = 1) (hby : i.bytes = bytes) (hzs : z.cells.size = 1) (a0 : Option Addr)
    (vx : Value) (l : List Int) (hx : Fc.IsN w vx l) (h0 : l ≠ []) (h63 : l.length ≤ maxLen) (hbytes : l.length * bytes ≤ 140737488355328) (hbase : base ≤ w.heap.size) :
    ∃ v' w', (Builtin.append_ #[t, t] ty #[.slice a0 0 0, vx]).run P w = .ok v' w' ∧ w'.ownsRow base e 1 v' l.length (Fc.cellsN l) ∧ Below w.heap.size w w' := by
  obtain ⟨ax, cx, rfl, g1, g2, _, hc⟩ := hx
  obtain ⟨b, off, rfl, hlt, hc⟩ := hc h0
  have hp : 0 < l.length := by
    rcases Nat.eq_zero_or_pos l.length with h | h
    · exact absurd (List.length_eq_zero_iff.1 h) h0
    · exact h
  obtain ⟨g, cap, w', h1, h2, h3, _, _⟩ := run_append_lies (P := P) w t ty base e i z 1 bytes ht hi hz hsize hby hzs (by omega) (.slice none 0 0) 0 [] (World.ownsRow_nil _ _ _ _) ⟨b, off, none⟩ l.length cx (Fc.cellsN l) (by rw [cellsN_len]; omega) (cellN_of hc) (cellsN_one l) hp (by omega) (by rw [Nat.zero_add]; exact hbytes) hbase _ rfl
  rw [Nat.zero_add] at h2
  rw [List.nil_append] at h2
  have hb : Below w.heap.size w w' := (Below.refl _ _).grown h3 (Nat.le_refl _) (fun k h => by cases h)
  refine ⟨_, w', ?_, h2, hb⟩
  rw [Nat.zero_add] at h1
  cases a0 with
  | none => exact h1
  | some a =>
    have hn : ¬ l.length = 0 := by omega
    have hno : ¬ (281474976710656 < Builtin.nextslicecap l.length 0 * i.bytes) := by
      have := growslice_fits (need := l.length) (old := 0) (bytes := i.bytes) hp (by rw [hby]; exact hbytes)
      omega
    rw [← h1]
    simp [Builtin.append_, run_underlying ht, Builtin.lenOf, Builtin.firstCells, sizeOf, typeInfo, hi, hsize, Result.andThen, loadCells, loadCellsFrom, hn, hno]
/-- A slice of the call's own, or an empty one without capacity. -/
def OwnE (w : World) (base : Nat) (e : TypeId) (v : Value) (n : Nat) (xs : List Value) : Prop := w.ownsRow base e 1 v n xs ∨ (n = 0 ∧ xs = [] ∧ ∃ b, v = .slice b 0 0)
theorem run_append_all {P : Program} (w : World) (t ty : TypeId) (base : Nat) (e : TypeId) (i : TypeInfo) (z : Value) (bytes : Nat) (ht : P.underlying t = some (.slice e)) (hi : P.info? e = some i) (hz : i.zero = some z)
    (hsize : i.size = 1) (hby : i.bytes = bytes) (hzs : z.cells.size = 1) (a0 : Option Addr)
    (vx : Value) (l : List Int) (hx : Fc.IsN w vx l) (h63 : l.length ≤ maxLen) (hbytes : l.length * bytes ≤ 140737488355328) (hbase : base ≤ w.heap.size) :
    ∃ v' w', (Builtin.append_ #[t, t] ty #[.slice a0 0 0, vx]).run P w = .ok v' w' ∧ OwnE w' base e v' l.length (Fc.cellsN l) ∧ Below w.heap.size w w' := by
  by_cases h0 : l = []
  · subst h0
    obtain ⟨ax, cx, rfl, _, _, _⟩ := hx
    exact ⟨_, _, run_append_none w t ty e i ht hi a0 ax 0 0 cx (Nat.le_refl _), .inr ⟨rfl, rfl, a0, rfl⟩, Below.refl _ _⟩
  · obtain ⟨v', w', h1, h2, h3⟩ := run_append_nums (P := P) w t ty base e i z bytes ht hi hz hsize hby hzs a0 vx l hx h0 h63 hbytes hbase
    exact ⟨v', w', h1, .inl h2, h3⟩
theorem own_below {w w' : World} {base : Nat} {e : TypeId} {size : Nat} {v : Value} {n : Nat} {xs : List Value} (h : w.ownsRow base e size v n xs) (hb : Below w.heap.size w w') : w'.ownsRow base e size v n xs := by
  refine ⟨h.1, ?_⟩
  rcases h.2 with hn | ⟨g, cap, cur, rfl, hb', hg, rest⟩
  · exact .inl hn
  · exact .inr ⟨g, cap, cur, rfl, hb', (hb.block g (lt_of_block hg)).trans hg, rest⟩
/-- One number more. -/
theorem run_append_more {P : Program} (w : World) (t ty : TypeId) (base : Nat) (e : TypeId) (i : TypeInfo) (z : Value) (bytes : Nat) (ht : P.underlying t = some (.slice e)) (hi : P.info? e = some i) (hz : i.zero = some z)
    (hsize : i.size = 1) (hby : i.bytes = bytes) (hzs : z.cells.size = 1) (v : Value) (n : Nat) (xs : List Value) (hown : OwnE w base e v n xs) (vx : Value) (x : Int)
    (hx : Fc.IsN w vx [x]) (h63 : n + 1 ≤ maxLen) (hbytes : (n + 1) * bytes ≤ 140737488355328) (hbase : base ≤ w.heap.size) :
    ∃ v' w', (Builtin.append_ #[t, t] ty #[v, vx]).run P w = .ok v' w' ∧ w'.ownsRow base e 1 v' (n + 1) (xs ++ [.int .i64 x]) ∧ Below base w w' := by
  rcases hown with hown | ⟨rfl, rfl, a0, rfl⟩
  · obtain ⟨ax, cx, rfl, _, _, _, hc⟩ := hx
    obtain ⟨b, off, rfl, _, hc⟩ := hc (by simp)
    obtain ⟨g, cap, w', h1, h2, h3, _, _⟩ := run_append_lies (P := P) w t ty base e i z 1 bytes ht hi hz hsize hby hzs (by omega) v n xs hown ⟨b, off, none⟩ 1 cx [.int .i64 x] rfl (cellN_of (l := [x]) hc) (cellsN_one [x]) (by decide) h63 hbytes hbase _ rfl
    exact ⟨_, w', h1, h2, (Below.refl _ _).grown h3 hbase (fun k hk => (hown.lt k hk).1)⟩
  · obtain ⟨v', w', h1, h2, h3⟩ := run_append_nums (P := P) w t ty base e i z bytes ht hi hz hsize hby hzs a0 vx [x] hx (by simp) (by simp [maxLen]) (by simpa using hbytes) hbase
    exact ⟨v', w', h1, by simpa [Fc.cellsN] using h2, h3.mono hbase⟩
theorem OwnE.below {w w' : World} {base : Nat} {e : TypeId} {v : Value} {n : Nat} {xs : List Value} (hb : Below w.heap.size w w') (h : OwnE w base e v n xs) : OwnE w' base e v n xs := h.imp (fun h => own_below h hb) id
theorem OwnE.alloc {w : World} {base : Nat} {e : TypeId} {v : Value} {n : Nat} {xs : List Value} (o : Obj) (h : OwnE w base e v n xs) : OwnE (w.alloc o) base e v n xs := h.imp (fun h => h.alloc o) id
/-- At a step of a region that draws its order. -/
theorem step_append_all {P : Program} {ops : Array Oper} {o : Oper} {a : Act} {w : World} {K : Act → World → Prop} {Q : Exit → Act → World → Prop} {E : Prop} (hw : Region.wanted o (yielded ops a.tmps) = true) (s x : Operand) (t : TypeId)
    (ho : o.op = .call { callee := .builtin .append, args := #[s, x], argTypes := #[t, t] }) (base : Nat) (e : TypeId) (i : TypeInfo) (z : Value) (bytes : Nat) (ht : P.underlying t = some (.slice e)) (hi : P.info? e = some i) (hz : i.zero = some z)
    (hsize : i.size = 1) (hby : i.bytes = bytes) (hzs : z.cells.size = 1) (a0 : Option Addr) (hs : a.eval s = .slice a0 0 0)
    (vx : Value) (l : List Int) (hv : a.eval x = vx) (hx : Fc.IsN w vx l) (h63 : l.length ≤ maxLen) (hbytes : l.length * bytes ≤ 140737488355328) (hbase : base ≤ w.heap.size)
    (h : ∀ v' w', OwnE w' base e v' l.length (Fc.cellsN l) → Below w.heap.size w w' → K (a.put o.dst v') w') :
    if Region.wanted o (yielded ops a.tmps) = true then Oper.wp P o a w K Q else E := by
  rw [if_pos hw]
  obtain ⟨v', w', hr, h2, h3⟩ := run_append_all (P := P) w t o.type base e i z bytes ht hi hz hsize hby hzs a0 vx l hx h63 hbytes hbase
  unfold Oper.wp execOp
  simp only [ho, resolve, invoke, builtin, Sem.run_bind, Sem.run_pure, Result.andThen_ok, List.map_toArray, List.map_cons, List.map_nil, hs, hv, hr]
  exact h v' w' h2 h3
theorem step_append_more {P : Program} {ops : Array Oper} {o : Oper} {a : Act} {w : World} {K : Act → World → Prop} {Q : Exit → Act → World → Prop} {E : Prop} (hw : Region.wanted o (yielded ops a.tmps) = true) (s x : Operand) (t : TypeId)
    (ho : o.op = .call { callee := .builtin .append, args := #[s, x], argTypes := #[t, t] }) (base : Nat) (e : TypeId) (i : TypeInfo) (z : Value) (bytes : Nat) (ht : P.underlying t = some (.slice e)) (hi : P.info? e = some i) (hz : i.zero = some z)
    (hsize : i.size = 1) (hby : i.bytes = bytes) (hzs : z.cells.size = 1) (v : Value) (n : Nat) (xs : List Value) (hs : a.eval s = v) (hown : OwnE w base e v n xs)
    (vx : Value) (y : Int) (hv : a.eval x = vx) (hx : Fc.IsN w vx [y]) (h63 : n + 1 ≤ maxLen) (hbytes : (n + 1) * bytes ≤ 140737488355328) (hbase : base ≤ w.heap.size)
    (h : ∀ v' w', w'.ownsRow base e 1 v' (n + 1) (xs ++ [.int .i64 y]) → Below base w w' → K (a.put o.dst v') w') :
    if Region.wanted o (yielded ops a.tmps) = true then Oper.wp P o a w K Q else E := by
  rw [if_pos hw]
  obtain ⟨v', w', hr, h2, h3⟩ := run_append_more (P := P) w t o.type base e i z bytes ht hi hz hsize hby hzs v n xs hown vx y hx h63 hbytes hbase
  unfold Oper.wp execOp
  simp only [ho, resolve, invoke, builtin, Sem.run_bind, Sem.run_pure, Result.andThen_ok, List.map_toArray, List.map_cons, List.map_nil, hs, hv, hr]
  exact h v' w' h2 h3
/-- A slice of one number, just built. -/
theorem nums_one (w : World) (x : Int) (hx : -9223372036854775808 ≤ x ∧ x ≤ 9223372036854775807) : Fc.IsN (w.alloc (.cells #[.int .i64 x] 3)) (.slice (some ⟨w.heap.size, 0, none⟩) 1 1) [x] :=
  ⟨_, 1, rfl, Nat.le_refl _, by decide, by simpa using hx, fun _ => ⟨w.heap.size, 0, rfl, by simp, by
    intro i hi
    obtain rfl : i = 0 := by simpa using hi
    exact World.cell?_alloc_at _ _ _ _ rfl⟩⟩
theorem nums_second (w : World) (o : Obj) (x : Int) (hx : -9223372036854775808 ≤ x ∧ x ≤ 9223372036854775807) : Fc.IsN ((w.alloc o).alloc (.cells #[.int .i64 x] 3)).drew (.slice (some ⟨w.heap.size + 1, 0, none⟩) 1 1) [x] := by
  have h := (nums_one (w.alloc o) x hx).below (Below.refl _ _).drew
  have e : (w.alloc o).heap.size = w.heap.size + 1 := by simp
  rw [e] at h
  exact h
end Go.Proofs.Ytjcaingfeaaakaa
