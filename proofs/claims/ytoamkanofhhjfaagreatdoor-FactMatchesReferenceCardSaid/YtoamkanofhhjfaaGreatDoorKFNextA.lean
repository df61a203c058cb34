import Derived.Test.YtoamkanofhhjfaaGreatDoorKFName
import Derived.OwnWalk
import Derived.Laws.OwnMore
import Derived.Deep.RegionHeld3
import Derived.Deep.AppendLies
import Derived.RangeFuncNested
import Derived.RangeFuncBound
import Derived.RangeFuncCalls
import Derived.RangeFuncLeaves
import Derived.RangeFuncBox
import Derived.Shelf.Abstract
import Derived.Shelf.RegionOpen
import Derived.WalkKit
import Derived.OwnWalkIn
import Derived.TacticsInMore
import Derived.LoopNIn
import Derived.LoopIn
import Derived.Test.YtoamkanofhhjfaaGreatDoorKFFits
/-
  Slices of numbers that a call has made.
-/
namespace Go.Proofs.YtoamkanofhhjfaaGreatDoor
open Go.RowKit

theorem one_int : (Tryz.prog.info? 3).map (fun i => (i.zero, i.size, i.bytes)) = some (some (.int .i64 0), 1, 8) := by kernel_rfl
namespace Fc
def cellsN (l : List Int) : List Value := l.map (Value.int .i64)
theorem cellsN_get (l : List Int) (k : Nat) : (cellsN l)[k]? = (l[k]?).map (Value.int .i64) := by unfold cellsN; rw [List.getElem?_map]
theorem cellsN_set (l : List Int) (k : Nat) (x : Int) : (cellsN l).set k (.int .i64 x) = cellsN (l.set k x) := by unfold cellsN; rw [List.map_set]
theorem cells_made (n : Nat) : (madeCells (Value.int .i64 0).cells (n * 1)).toList = cellsN (List.replicate n 0) := by
  rw [show (Value.int .i64 0).cells = #[.int .i64 0] from rfl, toList_madeCells_one, Nat.mul_one]
  unfold cellsN
  rw [List.map_replicate]
/-- A row of numbers in block g. -/
def OwnN (g : Nat) (n : Nat) (l : List Int) (w : World) : Prop := l.length = n ∧ w.ownsRow g 3 1 (.slice (some ⟨g, 0, none⟩) n n) n (cellsN l)
theorem OwnN.lt {g n : Nat} {l : List Int} {w : World} (h : OwnN g n l w) : g < w.heap.size := by
  rcases h.2.2 with ⟨h, _⟩ | ⟨g2, _, _, h, _, hg, _⟩
  · cases h
  · cases h; exact (Array.getElem?_eq_some_iff.1 hg).1
theorem OwnN.cell {g n : Nat} {l : List Int} {w : World} (h : OwnN g n l w) {k : Nat} {x : Int} (hx : l[k]? = some x) : w.cell? ⟨g, k, none⟩ = some (.int .i64 x) := by
  have hk : k < n := by rw [← h.1]; exact (List.getElem?_eq_some_iff.1 hx).1
  rw [h.2.cellAt k (by omega), cellsN_get, hx]; rfl
theorem OwnN.frozen {g n : Nat} {l : List Int} {w : World} (h : OwnN g n l w) (k : Nat) : w.frozen? ⟨g, k, none⟩ = false := h.2.frozenAt k
theorem OwnN.store {g n : Nat} {l : List Int} {w : World} (h : OwnN g n l w) (k : Nat) (x : Int) : OwnN g n (l.set k x) (w.setCell ⟨g, k, none⟩ (.int .i64 x)) := by
  refine ⟨by rw [List.length_set]; exact h.1, ?_⟩
  have := (h.2.stored k (.int .i64 x)).1
  rw [cellsN_set] at this
  exact this
theorem OwnN.block {g n : Nat} {l : List Int} {w w' : World} (h : OwnN g n l w) (hb : w'.heap[g]? = w.heap[g]?) : OwnN g n l w' := by
  obtain ⟨h0, h1, h2⟩ := h
  refine ⟨h0, h1, ?_⟩
  rcases h2 with hn | ⟨g2, cap, cur, e, hb', hg, rest⟩
  · exact .inl hn
  · refine .inr ⟨g2, cap, cur, e, hb', ?_, rest⟩
    cases e
    exact hb.trans hg
theorem OwnN.isN {g n : Nat} {l : List Int} {w : World} (h : OwnN g n l w) (hn : n ≤ 9223372036854775807) (hb : ∀ x ∈ l, -9223372036854775808 ≤ x ∧ x ≤ 9223372036854775807) : IsN w (.slice (some ⟨g, 0, none⟩) n n) l := by
  refine ⟨_, n, by rw [h.1], by rw [h.1]; exact Nat.le_refl _, hn, hb, fun _ => ⟨g, 0, rfl, h.lt, fun i hi => ?_⟩⟩
  rw [Nat.zero_add, List.getD_eq_getElem?_getD, List.getElem?_eq_getElem hi]
  exact h.cell (List.getElem?_eq_getElem hi)
end Fc
end Go.Proofs.YtoamkanofhhjfaaGreatDoor
/-
  append of a whole slice of numbers onto an empty slice without capacity, and of one number behind it.
-/
namespace Go.Proofs.YtoamkanofhhjfaaGreatDoor
open Go.RowKit

theorem run_append_none {P : Program} (w : World) (t ty e : TypeId) (i : TypeInfo) (ht : P.underlying t = some (.slice e)) (hi : P.info? e = some i) (base ax : Option Addr) (n cap cx : Nat) (h : n ≤ cap) :
    (Builtin.append_ #[t, t] ty #[.slice base n cap, .slice ax 0 cx]).run P w = .ok (.slice base n cap) w := by
  cases base <;> cases ax <;> simp [Builtin.append_, run_underlying ht, Builtin.lenOf, Builtin.firstCells, sizeOf, typeInfo, hi, h, Result.andThen, loadCells, loadCellsFrom, storeCells]
theorem cellN_of {l : List Int} {w : World} {b off : Nat} (hc : ∀ i, i < l.length → w.cell? ⟨b, off + i, none⟩ = some (.int .i64 (l.getD i 0))) : ∀ j u, (Fc.cellsN l)[j]? = some u → w.cell? (Addr.add ⟨b, off, none⟩ j) = some u := by
  intro j u hu
  rw [Go.WideShapes.add_plain]
  unfold Fc.cellsN at hu
  rw [List.getElem?_map] at hu
  by_cases hj : j < l.length
  · rw [List.getElem?_eq_getElem hj] at hu
    have : u = .int .i64 l[j] := (Option.some.inj hu).symm
    rw [hc j hj, this, List.getD_eq_getElem?_getD, List.getElem?_eq_getElem hj]
    rfl
  · rw [List.getElem?_eq_none (by omega)] at hu; cases hu
theorem cellsN_one (l : List Int) : ∀ u ∈ Fc.cellsN l, u.oneCell' = true := by
  intro u hu
  obtain ⟨s, _, rfl⟩ := List.mem_map.1 hu
  rfl
theorem cellsN_len (l : List Int) : (Fc.cellsN l).length = l.length := List.length_map ..
/-- Onto an empty slice without capacity: as onto nil. -/
theorem run_append_nums {P : Program} (w : World) (t ty : TypeId) (base : Nat) (e : TypeId) (i : TypeInfo) (z : Value) (bytes : Nat) (ht : P.underlying t = some (.slice e)) (hi : P.info? e = some i) (hz : i.zero = some z)
    (hsize : i.size = 1) (hby : i.bytes = bytes) (hzs : z.cells.size = 1) (a0 : Option Addr)
    (vx : Value) (l : List Int) (hx : Fc.IsN w vx l) (h0 : l ≠ []) (h63 : l.length ≤ maxLen) (hbytes : l.length * bytes ≤ 140737488355328) (hbase : base ≤ w.heap.size) :
    ∃ v' w', (Builtin.append_ #[t, t] ty #[.slice a0 0 0, vx]).run P w = .ok v' w' ∧ w'.ownsRow base e 1 v' l.length (Fc.cellsN l) ∧ Below w.heap.size w w' := by
  obtain ⟨ax, cx, rfl, g1, g2, _, hc⟩ := hx
  obtain ⟨b, off, rfl, hlt, hc⟩ := hc h0
  have hp : 0 < l.length := by
    rcases Nat.eq_zero_or_pos l.length with h | h
    · exact absurd (List.length_eq_zero_iff.1 h) h0
    · exact h
  obtain ⟨g, cap, w', h1, h2, h3, _, _⟩ := run_append_lies (P := P) w t ty base e i z 1 bytes ht hi hz hsize hby hzs (by omega) (.slice none 0 0) 0 [] (World.ownsRow_nil _ _ _ _) ⟨b, off, none⟩ l.length cx (Fc.cellsN l) (by rw [cellsN_len]; omega) (cellN_of hc) (cellsN_one l) hp (by omega) (by rw [Nat.zero_add]; exact hbytes) hbase _ rfl
  rw [Nat.zero_add] at h2
  rw [List.nil_append] at h2
  have hb : Below w.heap.size w w' := (Below.refl _ _).grown h3 (Nat.le_refl _) (fun k h => by cases h)
  refine ⟨_, w', ?_, h2, hb⟩
  rw [Nat.zero_add] at h1
  cases a0 with
  | none => exact h1
  | some a =>
    have hn : ¬ l.length = 0 := by omega
    have hno : ¬ (281474976710656 < Builtin.nextslicecap l.length 0 * i.bytes) := by
      have := growslice_fits (need := l.length) (old := 0) (bytes := i.bytes) hp (by rw [hby]; exact hbytes)
      omega
    rw [← h1]
    simp [Builtin.append_, run_underlying ht, Builtin.lenOf, Builtin.firstCells, sizeOf, typeInfo, hi, hsize, Result.andThen, loadCells, loadCellsFrom, hn, hno]
/-- A slice of the call's own, or an empty one without capacity. -/
def OwnE (w : World) (base : Nat) (e : TypeId) (v : Value) (n : Nat) (xs : List Value) : Prop := w.ownsRow base e 1 v n xs ∨ (n = 0 ∧ xs = [] ∧ ∃ b, v = .slice b 0 0)
theorem run_append_all {P : Program} (w : World) (t ty : TypeId) (base : Nat) (e : TypeId) (i : TypeInfo) (z : Value) (bytes : Nat) (ht : P.underlying t = some (.slice e)) (hi : P.info? e = some i) (hz : i.zero = some z)
    (hsize : i.size = 1) (hby : i.bytes = bytes) (hzs : z.cells.size = 1) (a0 : Option Addr)
    (vx : Value) (l : List Int) (hx : Fc.IsN w vx l) (h63 : l.length ≤ maxLen) (hbytes : l.length * bytes ≤ 140737488355328) (hbase : base ≤ w.heap.size) :
    ∃ v' w', (Builtin.append_ #[t, t] ty #[.slice a0 0 0, vx]).run P w = .ok v' w' ∧ OwnE w' base e v' l.length (Fc.cellsN l) ∧ Below w.heap.size w w' := by
  by_cases h0 : l = []
  · subst h0
    obtain ⟨ax, cx, rfl, _, _, _⟩ := hx
    exact ⟨_, _, run_append_none w t ty e i ht hi a0 ax 0 0 cx (Nat.le_refl _), .inr ⟨rfl, rfl, a0, rfl⟩, Below.refl _ _⟩
  · obtain ⟨v', w', h1, h2, h3⟩ := run_append_nums (P := P) w t ty base e i z bytes ht hi hz hsize hby hzs a0 vx l hx h0 h63 hbytes hbase
    exact ⟨v', w', h1, .inl h2, h3⟩
theorem own_below {w w' : World} {base : Nat} {e : TypeId} {size : Nat} {v : Value} {n : Nat} {xs : List Value} (h : w.ownsRow base e size v n xs) (hb : Below w.heap.size w w') : w'.ownsRow base e size v n xs := by
  refine ⟨h.1, ?_⟩
  rcases h.2 with hn | ⟨g, cap, cur, rfl, hb', hg, rest⟩
  · exact .inl hn
  · exact .inr ⟨g, cap, cur, rfl, hb', (hb.block g (lt_of_block hg)).trans hg, rest⟩
/-- One number more. -/
theorem run_append_more {P : Program} (w : World) (t ty : TypeId) (base : Nat) (e : TypeId) (i : TypeInfo) (z : Value) (bytes : Nat) (ht : P.underlying t = some (.slice e)) (hi : P.info? e = some i) (hz : i.zero = some z)
    (hsize : i.size = 1) (hby : i.bytes = bytes) (hzs : z.cells.size = 1) (v : Value) (n : Nat) (xs : List Value) (hown : OwnE w base e v n xs) (vx : Value) (x : Int)
    (hx : Fc.IsN w vx [x]) (h63 : n + 1 ≤ maxLen) (hbytes : (n + 1) * bytes ≤ 140737488355328) (hbase : base ≤ w.heap.size) :
    ∃ v' w', (Builtin.append_ #[t, t] ty #[v, vx]).run P w = .ok v' w' ∧ w'.ownsRow base e 1 v' (n + 1) (xs ++ [.int .i64 x]) ∧ Below base w w' := by
  rcases hown with hown | ⟨rfl, rfl, a0, rfl⟩
  · obtain ⟨ax, cx, rfl, _, _, _, hc⟩ := hx
    obtain ⟨b, off, rfl, _, hc⟩ := hc (by simp)
    obtain ⟨g, cap, w', h1, h2, h3, _, _⟩ := run_append_lies (P := P) w t ty base e i z 1 bytes ht hi hz hsize hby hzs (by omega) v n xs hown ⟨b, off, none⟩ 1 cx [.int .i64 x] rfl (cellN_of (l := [x]) hc) (cellsN_one [x]) (by decide) h63 hbytes hbase _ rfl
    exact ⟨_, w', h1, h2, (Below.refl _ _).grown h3 hbase (fun k hk => (hown.lt k hk).1)⟩
  · obtain ⟨v', w', h1, h2, h3⟩ := run_append_nums (P := P) w t ty base e i z bytes ht hi hz hsize hby hzs a0 vx [x] hx (by simp) (by simp [maxLen]) (by simpa using hbytes) hbase
    exact ⟨v', w', h1, by simpa [Fc.cellsN] using h2, h3.mono hbase⟩
theorem OwnE.below {w w' : World} {base : Nat} {e : TypeId} {v : Value} {n : Nat} {xs : List Value} (hb : Below w.heap.size w w') (h : OwnE w base e v n xs) : OwnE w' base e v n xs := h.imp (fun h => own_below h hb) id
theorem OwnE.alloc {w : World} {base : Nat} {e : TypeId} {v : Value} {n : Nat} {xs : List Value} (o : Obj) (h : OwnE w base e v n xs) : OwnE (w.alloc o) base e v n xs := h.imp (fun h => h.alloc o) id
/-- At a step of a region that draws its order. -/
theorem step_append_all {P : Program} {ops : Array Oper} {o : Oper} {a : Act} {w : World} {K : Act → World → Prop} {Q : Exit → Act → World → Prop} {E : Prop} (hw : Region.wanted o (yielded ops a.tmps) = true) (s x : Operand) (t : TypeId)
    (ho : o.op = .call { callee := .builtin .append, args := #[s, x], argTypes := #[t, t] }) (base : Nat) (e : TypeId) (i : TypeInfo) (z : Value) (bytes : Nat) (ht : P.underlying t = some (.slice e)) (hi : P.info? e = some i) (hz : i.zero = some z)
    (hsize : i.size = 1) (hby : i.bytes = bytes) (hzs : z.cells.size = 1) (a0 : Option Addr) (hs : a.eval s = .slice a0 0 0)
    (vx : Value) (l : List Int) (hv : a.eval x = vx) (hx : Fc.IsN w vx l) (h63 : l.length ≤ maxLen) (hbytes : l.length * bytes ≤ 140737488355328) (hbase : base ≤ w.heap.size)
    (h : ∀ v' w', OwnE w' base e v' l.length (Fc.cellsN l) → Below w.heap.size w w' → K (a.put o.dst v') w') :
    if Region.wanted o (yielded ops a.tmps) = true then Oper.wp P o a w K Q else E := by
  rw [if_pos hw]
  obtain ⟨v', w', hr, h2, h3⟩ := run_append_all (P := P) w t o.type base e i z bytes ht hi hz hsize hby hzs a0 vx l hx h63 hbytes hbase
  unfold Oper.wp execOp
  simp only [ho, resolve, invoke, builtin, Sem.run_bind, Sem.run_pure, Result.andThen_ok, List.map_toArray, List.map_cons, List.map_nil, hs, hv, hr]
  exact h v' w' h2 h3
theorem step_append_more {P : Program} {ops : Array Oper} {o : Oper} {a : Act} {w : World} {K : Act → World → Prop} {Q : Exit → Act → World → Prop} {E : Prop} (hw : Region.wanted o (yielded ops a.tmps) = true) (s x : Operand) (t : TypeId)
    (ho : o.op = .call { callee := .builtin .append, args := #[s, x], argTypes := #[t, t] }) (base : Nat) (e : TypeId) (i : TypeInfo) (z : Value) (bytes : Nat) (ht : P.underlying t = some (.slice e)) (hi : P.info? e = some i) (hz : i.zero = some z)
    (hsize : i.size = 1) (hby : i.bytes = bytes) (hzs : z.cells.size = 1) (v : Value) (n : Nat) (xs : List Value) (hs : a.eval s = v) (hown : OwnE w base e v n xs)
    (vx : Value) (y : Int) (hv : a.eval x = vx) (hx : Fc.IsN w vx [y]) (h63 : n + 1 ≤ maxLen) (hbytes : (n + 1) * bytes ≤ 140737488355328) (hbase : base ≤ w.heap.size)
    (h : ∀ v' w', w'.ownsRow base e 1 v' (n + 1) (xs ++ [.int .i64 y]) → Below base w w' → K (a.put o.dst v') w') :
    if Region.wanted o (yielded ops a.tmps) = true then Oper.wp P o a w K Q else E := by
  rw [if_pos hw]
  obtain ⟨v', w', hr, h2, h3⟩ := run_append_more (P := P) w t o.type base e i z bytes ht hi hz hsize hby hzs v n xs hown vx y hx h63 hbytes hbase
  unfold Oper.wp execOp
  simp only [ho, resolve, invoke, builtin, Sem.run_bind, Sem.run_pure, Result.andThen_ok, List.map_toArray, List.map_cons, List.map_nil, hs, hv, hr]
  exact h v' w' h2 h3
/-- A slice of one number, just built. -/
theorem nums_one (w : World) (x : Int) (hx : -9223372036854775808 ≤ x ∧ x ≤ 9223372036854775807) : Fc.IsN (w.alloc (.cells #[.int .i64 x] 3)) (.slice (some ⟨w.heap.size, 0, none⟩) 1 1) [x] :=
  ⟨_, 1, rfl, Nat.le_refl _, by decide, by simpa using hx, fun _ => ⟨w.heap.size, 0, rfl, by simp, by
    intro i hi
    obtain rfl : i = 0 := by simpa using hi
    exact World.cell?_alloc_at _ _ _ _ rfl⟩⟩
theorem nums_second (w : World) (o : Obj) (x : Int) (hx : -9223372036854775808 ≤ x ∧ x ≤ 9223372036854775807) : Fc.IsN ((w.alloc o).alloc (.cells #[.int .i64 x] 3)).drew (.slice (some ⟨w.heap.size + 1, 0, none⟩) 1 1) [x] := by
  have h := (nums_one (w.alloc o) x hx).below (Below.refl _ _).drew
  have e : (w.alloc o).heap.size = w.heap.size + 1 := by simp
  rw [e] at h
  exact h
end Go.Proofs.YtoamkanofhhjfaaGreatDoor
/-
  The walks of slices.Clone and of slices.Backward, an iterator.
-/
namespace Go.Proofs.YtoamkanofhhjfaaGreatDoor
open Go.RowKit Go.Shelf

attribute [local go_sem] Oper.semAt_some

/-- At the list of a region's operations. -/
theorem wpList_append_all {P : Program} (w : World) {ops : Array Oper} {rest : List Oper} {o : Oper} {a : Act} {Q : Exit → Act → World → Prop} (hg : o.guard = none) (s x : Operand) (t : TypeId)
    (ho : o.op = .call { callee := .builtin .append, args := #[s, x], argTypes := #[t, t] }) (base : Nat) (e : TypeId) (i : TypeInfo) (z : Value) (bytes : Nat) (ht : P.underlying t = some (.slice e)) (hi : P.info? e = some i) (hz : i.zero = some z)
    (hsize : i.size = 1) (hby : i.bytes = bytes) (hzs : z.cells.size = 1) (a0 : Option Addr) (hs : a.eval s = .slice a0 0 0)
    (vx : Value) (l : List Int) (hv : a.eval x = vx) (hx : Fc.IsN w vx l) (h63 : l.length ≤ maxLen) (hbytes : l.length * bytes ≤ 140737488355328) (hbase : base ≤ w.heap.size)
    (h : ∀ v' w', OwnE w' base e v' l.length (Fc.cellsN l) → Below w.heap.size w w' → wpList P ops Q rest (a.put o.dst v') w') :
    wpList P ops Q (o :: rest) a w := by
  refine wpList_plain hg fun K hK' => ?_
  obtain ⟨v', w', hr, h2, h3⟩ := run_append_all (P := P) w t o.type base e i z bytes ht hi hz hsize hby hzs a0 vx l hx h63 hbytes hbase
  unfold Oper.wp execOp
  simp only [ho, resolve, invoke, builtin, Sem.run_bind, Sem.run_pure, Result.andThen_ok, List.map_toArray, List.map_cons, List.map_nil, hs, hv, hr]
  exact hK' _ _ (h v' w' h2 h3)

theorem eq_nil_some (ad : Addr) (n c : Nat) (w : World) : (binOp BinOp.eql 26 (.slice (some ad) n c) (.slice none 0 0)).run Tryz.prog w = .ok (.bool false) w := by kernel_rfl
theorem eq_nil_none (n c : Nat) (w : World) : (binOp BinOp.eql 26 (.slice none n c) (.slice none 0 0)).run Tryz.prog w = .ok (.bool true) w := by kernel_rfl

set_option maxHeartbeats 2000000 in
set_option maxRecDepth 100000 in
theorem clone_walk (u : Value) (m : List Int) (w : World) (hu : Fc.IsN w u m) (hm : m.length ≤ 1000) :
    Calls Tryz.prog 38 #[u] w fun e w' => (∃ v, e = .returned v ∧ OwnE w' w.heap.size 3 v m.length (Fc.cellsN m)) ∧ Below w.heap.size w w' := by
  have HU := Lib.hid hu
  obtain ⟨a, c, g, o, rfl, h1, h2, h3, h4⟩ := hu.any
  cases a with
  | none =>
    have hm0 : m = [] := by
      cases m with
      | nil => rfl
      | cons x r => have := (h3 (by simp)).1; cases this
    subst hm0
    clear h3 h4 HU
    have hq := fun w => eq_nil_none 0 c w
    go_enter Tryz.func38, Tryz.ntmps38
    go_wp2_with fail
    go_ret
    exact ⟨⟨_, rfl, .inr ⟨rfl, rfl, none, rfl⟩⟩, Below.refl _ _⟩
  | some ad =>
    obtain ⟨n, hn⟩ : ∃ n, n = m.length := ⟨_, rfl⟩
    rw [← hn] at HU ⊢
    have HN := Lib.hid hn
    obtain ⟨i0, hii, hz0, hz1, hz2⟩ := info_parts one_int
    have HI := Lib.hid hii
    clear h3 h4 hii
    have hmm : m.length ≤ 1000 := hm
    go_enter Tryz.func38, Tryz.ntmps38
    have hq := fun w => eq_nil_some ad n c w
    clear hn hu
    go_wp2_with (first | (at_builtin; refine wpList_append_all _ rfl _ _ 26 rfl w.heap.size 3 i0 (.int .i64 0) 8 Tryz.underlying26 HI.out hz0 hz1 hz2 rfl _ rfl _ m rfl (HU.out.below ((Below.refl _ _).alloc (Nat.le_refl _) _)) (by unfold maxLen; omega) (by omega) (by simp) ?_; intro v9 w9 ho9 hb9))
    go_wp2_with fail
    go_ret
    rw [HN.out]
    exact ⟨⟨_, rfl, ho9⟩, ((Below.refl w.heap.size w).alloc (Nat.le_refl _) _).trans (hb9.mono (by simp))⟩

namespace Fc
open Lx
/-- The first k indices from the right. -/
def down (n k : Nat) : List (Fin n) := ((List.finRange n).reverse).take k
theorem down_len (n k : Nat) (h : k ≤ n) : (down n k).length = k := by unfold down; rw [List.length_take, List.length_reverse, List.length_finRange]; omega
theorem down_succ (n k : Nat) (h : k < n) : down n (k + 1) = down n k ++ [⟨n - 1 - k, by omega⟩] := by
  unfold down
  rw [List.take_succ_eq_append_getElem (by rw [List.length_reverse, List.length_finRange]; exact h)]
  congr 2
  rw [List.getElem_reverse, List.getElem_finRange]
  apply Fin.ext
  simp
theorem down_all (n : Nat) : down n n = (List.finRange n).reverse := by unfold down; rw [List.take_of_length_le (by rw [List.length_reverse, List.length_finRange]; exact Nat.le_refl _)]
/-- What is yielded. -/
abbrev encB (d : List Fact) (n : Nat) (i : Fin n) : Array Value := #[.int .i64 (i.1 : Nat), vF (d.getD i.1 ⟨[], 0, 0, 0⟩)]
/-- What the body of the range may not touch. -/
def Kp2 (B g : Nat) (w w' : World) : Prop := w'.heap[B]? = w.heap[B]? ∧ w'.heap[g]? = w.heap[g]?
theorem Kp2.refl (B g : Nat) (w : World) : Kp2 B g w w := ⟨rfl, rfl⟩
theorem Kp2.trans {B g : Nat} {a b c : World} (h : Kp2 B g a b) (k : Kp2 B g b c) : Kp2 B g a c := ⟨k.1.trans h.1, k.2.trans h.2⟩
theorem Kp2.below {B g n : Nat} {a b : World} (h : Below n a b) (h1 : B < n) (h2 : g < n) : Kp2 B g a b := ⟨h.block B h1, h.block g h2⟩
end Fc
set_option maxHeartbeats 1000000 in
set_option maxRecDepth 100000 in
theorem backward_made (a : Option Addr) (n c : Nat) (w : World) :
    Calls Tryz.prog 39 #[.slice a n c] w fun e w' => e = .returned (.func (.func 67) #[] #[.pointer (some ⟨w.heap.size, 0, none⟩)]) ∧ w' = w.alloc (.cells #[.slice a n c] 22) := by
  have hmf : ∀ (fn : Fn) (first cap : Array Value) (w : World), (Instr.makeFunc fn first cap).run Tryz.prog w = .ok (.func fn first cap) w := fun _ _ _ _ => rfl
  go_enter Tryz.func39, Tryz.ntmps39
  go_wp2_with fail
  go_ret
  exact ⟨rfl, rfl⟩

set_option maxRecDepth 100000 in
set_option maxHeartbeats 4000000 in
theorem back_in (nn : Nat) (hnn : 2 ≤ nn) (l B g o c : Nat) (a : Option Addr) (d : List Fc.Fact) (n : Nat) (hn : n = d.length) (hd : n ≤ 1000) (hc : n ≤ c) (J Jx : List (Fin n) → World → Prop) (W : World)
    (hY : ∀ pre x W1, J pre W1 → pre.length < n → YieldAt Fence.wide (nn - 1) Tryz.prog l (Fc.encB d n x) W1 fun e W' =>
      (e = .returned (.bool true) ∧ J (pre ++ [x]) W' ∧ Fc.Kp2 B g W1 W') ∨ (e = .returned (.bool false) ∧ Jx (pre ++ [x]) W'))
    (h0 : J [] W) (hB : W.cell? ⟨B, 0, none⟩ = some (.slice a n c)) (hga : d ≠ [] → a = some ⟨g, o, none⟩)
    (hcl : ∀ i f, d[i]? = some f → W.cell? ⟨g, o + i * 4, none⟩ = some (.string (Lx.str f.name)) ∧ W.cell? ⟨g, o + i * 4 + 1, none⟩ = some (.int .i64 f.kind) ∧ W.cell? ⟨g, o + i * 4 + 2, none⟩ = some (.int .i64 f.lo) ∧ W.cell? ⟨g, o + i * 4 + 3, none⟩ = some (.int .i64 f.hi)) :
    CallsIn Fence.wide nn Tryz.prog 67 #[.func (.yield l) #[] #[], .pointer (some ⟨B, 0, none⟩)] W fun e W' => (∃ v, e = .returned v) ∧
      ((∃ xs, xs = (List.finRange n).reverse ∧ J xs W') ∨ (∃ pre, (∃ k, k < n ∧ pre = Fc.down n (k + 1)) ∧ Jx pre W')) := by
  have HY := Lib.hid hY
  have HC := Lib.hid hcl
  have HG := Lib.hid hga
  have hcell : ∀ {W' : World} (k i : Nat), (W'.heap[k]? = W.heap[k]?) → W'.cell? ⟨k, i, none⟩ = W.cell? ⟨k, i, none⟩ := fun k i h => World.cell?_of_block (w := W) h
  have HCE := Lib.hid (fun (W' : World) (h : Fc.Kp2 B g W W') (i : Nat) => And.intro (hcell (W' := W') B i h.1) (hcell (W' := W') g i h.2))
  have HN := Lib.hid hn
  have HB := Lib.hid hB
  have h0' := Lib.hid h0
  clear hY hcl hga hcell hn h0
  refine callsIn_of_wp Tryz.func67 rfl trivial ?_ rfl
  simp only [Tryz.ntmps67, List.size_toArray, List.length_cons, List.length_nil, Nat.reduceAdd, Nat.reduceSub, Array.replicate_succ, Array.replicate_zero, List.push_toArray, List.append_toArray, List.nil_append, List.cons_append]
  gi_wp2
  clear hB
  gi_loopw [3] (fun i wr => ∃ k : Nat, k ≤ n ∧ i = .int .i64 ((n : Int) - 1 - k) ∧ Hid (J (Fc.down n k) wr) ∧ Hid (Fc.Kp2 B g W wr)) (fun i _ => (intOf i + 1).toNat)
  case atStart => exact ⟨0, Nat.zero_le _, by congr 1; omega, by show J _ _; exact h0'.out, Fc.Kp2.refl _ _ _⟩
  case round =>
    obtain ⟨k, hk, rfl, hj, hkp⟩ := hrel
    by_cases hlt : k < n
    · obtain ⟨i, hi⟩ : ∃ i, i = n - 1 - k := ⟨_, rfl⟩
      have hii : (n : Int) - 1 - k = (i : Int) := by omega
      rw [hii]
      have hin : i < n := by omega
      have hini : (i : Int) < (n : Int) := by omega
      have hi0 : (0 : Int) ≤ (i : Int) := by omega
      obtain ⟨f, hf⟩ : ∃ f, d[i]? = some f := ⟨_, List.getElem?_eq_getElem (by rw [← HN.out]; exact hin)⟩
      have hgd : d.getD i ⟨[], 0, 0, 0⟩ = f := by rw [List.getD_eq_getElem?_getD, hf]; rfl
      obtain rfl := HG.out (by rintro rfl; simp at hf)
      obtain ⟨q0, q1, q2, q3⟩ := HC.out i f hf
      have c0 := ((HCE.out wr hkp.out 0).1).trans HB.out
      have c1 := ((HCE.out wr hkp.out (o + i * 4)).2).trans q0
      have c2 := ((HCE.out wr hkp.out (o + i * 4 + 1)).2).trans q1
      have c3 := ((HCE.out wr hkp.out (o + i * 4 + 2)).2).trans q2
      have c4 := ((HCE.out wr hkp.out (o + i * 4 + 3)).2).trans q3
      obtain ⟨fn, tmps, assign, body, hy, hR⟩ := HY.out (Fc.down n k) ⟨i, hin⟩ wr hj.out (by rw [Fc.down_len n k hk]; exact hlt)
      dsimp only [Fc.encB] at hy
      rw [hgd] at hy
      have hds : Fc.down n k ++ [⟨i, hin⟩] = Fc.down n (k + 1) := by rw [Fc.down_succ n k hlt]; congr 2; exact Fin.ext hi
      rw [hds] at hR
      have HII := Lib.hid (show (n : Int) - 1 - ((k + 1 : Nat) : Int) = (i : Int) - 1 by omega)
      have hik : i + 1 + k = n := by omega
      clear q0 q1 q2 q3 hf hgd hi hii hj hds
      gi_wp2
      refine ⟨fun _ => by omega, hR.mono ?_⟩
      rintro e W3 (⟨rfl, hJ3, hK3⟩ | ⟨rfl, hJx3⟩)
      · have HJ3 := Lib.hid hJ3
        have HK3 := Lib.hid (hkp.out.trans hK3)
        clear hJ3 hK3 c0 c1 c2 c3 c4
        gi_wp2
        refine ⟨⟨k + 1, by omega, ?_, HJ3, HK3⟩, by simp [intOf]⟩
        rw [HII.out]
      · have HJx := Lib.hid hJx3
        clear hJx3 c0 c1 c2 c3 c4
        gi_wp2
        refine bodyPost_ret (results_none rfl _ _ _) rfl ?_
        exact ⟨⟨_, rfl⟩, .inr ⟨_, ⟨k, hlt, rfl⟩, HJx.out⟩⟩
    · obtain rfl : k = n := by omega
      have hneg : (k : Int) - 1 - k = -1 := by omega
      rw [hneg]
      have HJk := Lib.hid (show J (List.finRange k).reverse wr by rw [← Fc.down_all]; exact hj.out)
      clear hj
      gi_wp2
      go_end0
      exact ⟨⟨_, rfl⟩, .inl ⟨_, rfl, HJk.out⟩⟩

/-- The value that Backward hands back has the contract of an iterator. -/
theorem back_stops (nn : Nat) (hnn : 2 ≤ nn) (B g o c : Nat) (a : Option Addr) (d : List Fc.Fact) (n : Nat) (hn : n = d.length) (w : World) (hd : n ≤ 1000) (hc : n ≤ c) (hB : w.heap[B]? = some (.cells #[.slice a n c] 22 (0, 0))) (hgl : g < w.heap.size) (hga : d ≠ [] → a = some ⟨g, o, none⟩)
    (hcl : ∀ i f, d[i]? = some f → w.cell? ⟨g, o + i * 4, none⟩ = some (.string (Lx.str f.name)) ∧ w.cell? ⟨g, o + i * 4 + 1, none⟩ = some (.int .i64 f.kind) ∧ w.cell? ⟨g, o + i * 4 + 2, none⟩ = some (.int .i64 f.lo) ∧ w.cell? ⟨g, o + i * 4 + 3, none⟩ = some (.int .i64 f.hi)) :
    SeqStopsK Fence.wide nn Tryz.prog 67 #[.pointer (some ⟨B, 0, none⟩)] (Fc.encB d n) (Fc.Kp2 B g) (fun xs => xs = (List.finRange n).reverse) (fun pre => ∃ k, k < n ∧ pre = Fc.down n (k + 1)) n w := fun l J Jx W hW hJ _ hY h0 => by
  have hBl := (Array.getElem?_eq_some_iff.1 hB).1
  refine back_in nn hnn l B g o c a d n hn hd hc J Jx W hY h0 (Joins.cell_of_block ((hW.block B hBl).trans hB) 0) hga (fun i f hf => ?_)
  obtain ⟨q0, q1, q2, q3⟩ := hcl i f hf
  exact ⟨(hW.cell (p := ⟨g, o + i * 4, none⟩) hgl).trans q0, (hW.cell (p := ⟨g, o + i * 4 + 1, none⟩) hgl).trans q1, (hW.cell (p := ⟨g, o + i * 4 + 2, none⟩) hgl).trans q2, (hW.cell (p := ⟨g, o + i * 4 + 3, none⟩) hgl).trans q3⟩
end Go.Proofs.YtoamkanofhhjfaaGreatDoor
/-
  The next case, found from the right, in arithmetic.
-/
namespace Go.Proofs.YtoamkanofhhjfaaGreatDoor
namespace Fc

def loAt (d : List Fact) (i : Nat) : Int := (d.getD i ⟨[], 0, 0, 0⟩).lo
def hiAt (d : List Fact) (i : Nat) : Int := (d.getD i ⟨[], 0, 0, 0⟩).hi
/-- The case behind some rounds. -/
def cur {n : Nat} (d : List Fact) (m : List Int) (pre : List (Fin n)) : List Int := pre.foldl (fun c i => c.set i.1 (loAt d i.1)) m
theorem cur_snoc {n : Nat} (d : List Fact) (m : List Int) (pre : List (Fin n)) (x : Fin n) : cur d m (pre ++ [x]) = (cur d m pre).set x.1 (loAt d x.1) := by unfold cur; rw [List.foldl_append]; rfl
theorem cur_len {n : Nat} (d : List Fact) (pre : List (Fin n)) : ∀ m : List Int, (cur d m pre).length = m.length := by
  induction pre with
  | nil => intro m; rfl
  | cons x r ih =>
    intro m
    show (cur d (m.set x.1 (loAt d x.1)) r).length = _
    rw [ih, List.length_set]
/-- No round so far has met a value that is not the greatest. -/
def Past {n : Nat} (d : List Fact) (m : List Int) (pre : List (Fin n)) : Prop := ∀ p x r, pre = p ++ x :: r → ¬ (cur d m p).getD x.1 0 < hiAt d x.1
theorem Past.nil {n : Nat} (d : List Fact) (m : List Int) : Past (n := n) d m [] := fun p x r h => by cases p <;> cases h
theorem Past.snoc {n : Nat} {d : List Fact} {m : List Int} {pre : List (Fin n)} {x : Fin n} (h : Past d m pre) (hx : ¬ (cur d m pre).getD x.1 0 < hiAt d x.1) : Past d m (pre ++ [x]) := by
  intro p y r e
  rcases List.append_eq_append_iff.1 e with ⟨a, e1, e2⟩ | ⟨a, e1, e2⟩
  · cases a with
    | nil =>
      rw [List.nil_append] at e2
      rw [List.append_nil] at e1
      obtain ⟨rfl, _⟩ := List.cons.inj e2
      rw [e1]; exact hx
    | cons b a =>
      rw [List.cons_append] at e2
      have := congrArg List.length e2
      simp at this
  · cases a with
    | nil =>
      rw [List.nil_append] at e2
      rw [List.append_nil] at e1
      obtain ⟨rfl, _⟩ := List.cons.inj e2
      rw [← e1]; exact hx
    | cons b a =>
      rw [List.cons_append] at e2
      obtain ⟨rfl, e3⟩ := List.cons.inj e2
      exact h p y a e1
theorem least_len (d : List Fact) : (least d).length = d.length := by unfold least; rw [List.length_map]
theorem cur_down {n : Nat} {d : List Fact} {m : List Int} (hn : n = d.length) (hm : m.length = n) : ∀ k, k ≤ n → cur d m (down n k) = m.take (n - k) ++ (least d).drop (n - k)
  | 0, _ => by
    show m = _
    rw [Nat.sub_zero, List.take_of_length_le (by omega), List.drop_of_length_le (by rw [least_len]; omega), List.append_nil]
  | k + 1, hk => by
    rw [down_succ n k hk, cur_snoc, cur_down hn hm k (by omega)]
    show (m.take (n - k) ++ (least d).drop (n - k)).set (n - 1 - k) (loAt d (n - 1 - k)) = _
    have hi : n - k = (n - 1 - k) + 1 := by omega
    have hi2 : n - (k + 1) = n - 1 - k := by omega
    obtain ⟨i, hii⟩ : ∃ i, i = n - 1 - k := ⟨_, rfl⟩
    have hlt : i < m.length := by omega
    have hlt2 : i < (least d).length := by rw [least_len]; omega
    rw [hi, hi2, ← hii]
    rw [List.set_append_left _ _ (by rw [List.length_take]; omega), List.take_succ_eq_append_getElem hlt, List.set_append_right _ _ (by rw [List.length_take]; omega)]
    rw [List.length_take, show i - min i m.length = 0 by omega, List.set_cons_zero, List.append_assoc]
    congr 1
    rw [List.drop_eq_getElem_cons hlt2]
    have hlo : loAt d i = (least d)[i] := by
      have : i < d.length := by omega
      have e : (least d)[i] = d[i].lo := by simp [least]
      rw [e]; unfold loAt
      rw [List.getD_eq_getElem?_getD, List.getElem?_eq_getElem this]; rfl
    rw [hlo]; rfl
theorem last_down {n : Nat} {d : List Fact} {m : List Int} (hn : n = d.length) (hw : within d m = true) : ∀ k, k ≤ n → Past d m (down n k) → last (d.drop (n - k)) (m.drop (n - k)) = true
  | 0, _, _ => by
    rw [Nat.sub_zero, List.drop_of_length_le (by omega)]; rfl
  | k + 1, hk, hp => by
    have hm := within_len hw
    have hds := down_succ n k hk
    have hpk : Past d m (down n k) := fun p x r e => hp p x (r ++ [⟨n - 1 - k, by omega⟩]) (by rw [hds, e]; simp)
    have ih := last_down hn hw k (by omega) hpk
    have hx := hp (down n k) ⟨n - 1 - k, by omega⟩ [] hds
    rw [cur_down hn (by omega) k (by omega)] at hx
    obtain ⟨i, hii⟩ : ∃ i, i = n - 1 - k := ⟨_, rfl⟩
    have hi : n - k = i + 1 := by omega
    have hi2 : n - (k + 1) = i := by omega
    have hx : ¬ (m.take (n - k) ++ (least d).drop (n - k)).getD (n - 1 - k) 0 < hiAt d (n - 1 - k) := hx
    rw [hi, ← hii] at hx
    rw [hi] at ih
    rw [hi2]
    have hlt : i < m.length := by omega
    have hltd : i < d.length := by omega
    have e1 : (m.take (i + 1) ++ (least d).drop (i + 1)).getD i 0 = m[i] := by
      rw [List.getD_eq_getElem?_getD, List.getElem?_append_left (by rw [List.length_take]; omega), List.getElem?_take_of_lt (by omega), List.getElem?_eq_getElem hlt]; rfl
    have e2 : hiAt d i = d[i].hi := by
      unfold hiAt
      rw [List.getD_eq_getElem?_getD, List.getElem?_eq_getElem hltd]; rfl
    rw [e1, e2] at hx
    have hb := (within_get.1 hw).2 i d[i] m[i] (List.getElem?_eq_getElem hltd) (List.getElem?_eq_getElem hlt)
    rw [last_drop i d[i] m[i] (List.getElem?_eq_getElem hltd) (List.getElem?_eq_getElem hlt), ih, Bool.and_true, decide_eq_true_iff]
    omega
/-- All rounds have gone by: there is none. -/
theorem next_done {n : Nat} {d : List Fact} {m : List Int} (hn : n = d.length) (hw : within d m = true) (hp : Past d m (List.finRange n).reverse) : next d m = none := by
  have := last_down hn hw n (Nat.le_refl _) (by rw [down_all]; exact hp)
  rw [Nat.sub_self, List.drop_zero, List.drop_zero] at this
  exact (next_none hw).2 this
/-- A round has met a value that is not the greatest. -/
theorem next_left {n k : Nat} {d : List Fact} {m : List Int} (hn : n = d.length) (hw : within d m = true) (hk : k < n) (hp : Past d m (down n k)) (hx : (cur d m (down n k)).getD (n - 1 - k) 0 < hiAt d (n - 1 - k)) :
    next d m = some ((cur d m (down n k)).set (n - 1 - k) ((cur d m (down n k)).getD (n - 1 - k) 0 + 1)) := by
  have hm := within_len hw
  have hl := last_down hn hw k (by omega) hp
  rw [cur_down hn (by omega) k (by omega)] at hx ⊢
  obtain ⟨i, hii⟩ : ∃ i, i = n - 1 - k := ⟨_, rfl⟩
  have hi : n - k = i + 1 := by omega
  rw [hi, ← hii] at hx ⊢
  rw [hi] at hl
  have hlt : i < m.length := by omega
  have hltd : i < d.length := by omega
  have e1 : (m.take (i + 1) ++ (least d).drop (i + 1)).getD i 0 = m[i] := by
    rw [List.getD_eq_getElem?_getD, List.getElem?_append_left (by rw [List.length_take]; omega), List.getElem?_take_of_lt (by omega), List.getElem?_eq_getElem hlt]; rfl
  have e2 : hiAt d i = d[i].hi := by
    unfold hiAt
    rw [List.getD_eq_getElem?_getD, List.getElem?_eq_getElem hltd]; rfl
  rw [e1, e2] at hx
  rw [e1]
  have hnx := next_at (d1 := d.take i) (c1 := m.take i) (f := d[i]) (d2 := d.drop (i + 1)) (x := m[i]) (c2 := m.drop (i + 1)) (by rw [List.length_take, List.length_take]; omega) (within_drop hw (i + 1)) hl hx
  rw [← List.drop_eq_getElem_cons hltd, ← List.drop_eq_getElem_cons hlt, List.take_append_drop, List.take_append_drop] at hnx
  rw [hnx]
  congr 1
  rw [List.set_append_left _ _ (by rw [List.length_take]; omega), List.take_succ_eq_append_getElem hlt, List.set_append_right _ _ (by rw [List.length_take]; omega)]
  rw [List.length_take, show i - min i m.length = 0 by omega, List.set_cons_zero, List.append_assoc]
  congr 1
  rw [List.singleton_append]
  congr 1
  unfold least
  rw [List.map_drop]
end Fc
end Go.Proofs.YtoamkanofhhjfaaGreatDoor
