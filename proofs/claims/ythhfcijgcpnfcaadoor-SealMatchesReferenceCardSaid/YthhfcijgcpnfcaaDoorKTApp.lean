import Derived.Test.YthhfcijgcpnfcaaDoorKTState
import Derived.Deep.RegionHeld3
/-
  append of a whole slice of texts onto one that the call owns: none, some or all of them; guarded or not.
-/
namespace Go.Proofs.YthhfcijgcpnfcaaDoor
open Go.RowKit

theorem run_append_nothing {P : Program} (w : World) (t ty e : TypeId) (i : TypeInfo) (ht : P.underlying t = some (.slice e)) (hi : P.info? e = some i) (base ax : Option Addr) (n cap cx : Nat) (h : n ≤ cap) :
    (Builtin.append_ #[t, t] ty #[.slice base n cap, .slice ax 0 cx]).run P w = .ok (.slice base n cap) w := by
  cases base <;> cases ax <;> simp [Builtin.append_, run_underlying ht, Builtin.lenOf, Builtin.firstCells, sizeOf, typeInfo, hi, h, Result.andThen, loadCells, loadCellsFrom, storeCells]

/-- append of a slice of texts onto an owned one. -/
theorem run_append_tx {P : Program} (w : World) (t ty : TypeId) (base : Nat) (e : TypeId) (i : TypeInfo) (z : Value) (bytes : Nat) (ht : P.underlying t = some (.slice e)) (hi : P.info? e = some i) (hz : i.zero = some z)
    (hsize : i.size = 1) (hby : i.bytes = bytes) (hzs : z.cells.size = 1) (v : Value) (n : Nat) (xs : List Value) (hown : w.ownsRow base e 1 v n xs)
    (vx : Value) (l : List ByteArray) (hx : IsTx w vx l) (h63 : n + l.length ≤ maxLen) (hbytes : (n + l.length) * bytes ≤ 140737488355328) (hbase : base ≤ w.heap.size) :
    ∃ v' w', (Builtin.append_ #[t, t] ty #[v, vx]).run P w = .ok v' w' ∧ w'.ownsRow base e 1 v' (n + l.length) (xs ++ Tr.cells l) ∧ w.grownBy w' v.ownBlock := by
  obtain ⟨ax, cx, rfl, g1, g2, hc⟩ := hx
  by_cases h0 : l = []
  · subst h0
    refine ⟨v, w, ?_, by simpa [Tr.cells] using hown, ⟨rfl, rfl, rfl, Nat.le_refl _, fun _ _ _ => rfl⟩⟩
    rcases hown.2 with ⟨rfl, rfl⟩ | ⟨g, cap, cur, rfl, _, _, hle, _⟩
    · exact run_append_nothing w t ty e i ht hi none ax 0 0 cx (Nat.le_refl _)
    · exact run_append_nothing w t ty e i ht hi _ ax n cap cx hle
  · obtain ⟨b, off, rfl, hlt, hc⟩ := hc h0
    have hp : 0 < l.length := by
      rcases Nat.eq_zero_or_pos l.length with h | h
      · exact absurd (List.length_eq_zero_iff.1 h) h0
      · exact h
    obtain ⟨g, cap, w', h1, h2, h3, _, _⟩ := run_append_lies (P := P) w t ty base e i z 1 bytes ht hi hz hsize hby hzs (by omega) v n xs hown ⟨b, off, none⟩ l.length cx (Tr.cells l) (by simp) (by
      intro j u hu
      rw [Go.WideShapes.add_plain]
      rw [List.getElem?_map] at hu
      by_cases hj : j < l.length
      · rw [List.getElem?_eq_getElem hj] at hu
        have : u = .string l[j] := (Option.some.inj hu).symm
        rw [hc j hj, this, Dg.getD_eq l j hj]
      · rw [List.getElem?_eq_none (by omega)] at hu; cases hu) (by
      intro u hu
      obtain ⟨s, _, rfl⟩ := List.mem_map.1 hu
      rfl) hp h63 hbytes hbase _ rfl
    exact ⟨_, w', h1, h2, h3⟩

/-- At a step of a region that draws its order. -/
theorem step_append_tx {P : Program} {ops : Array Oper} {o : Oper} {a : Act} {w : World} {K : Act → World → Prop} {Q : Exit → Act → World → Prop} {E : Prop} (hw : Region.wanted o (yielded ops a.tmps) = true) (s x : Operand) (t : TypeId)
    (ho : o.op = .call { callee := .builtin .append, args := #[s, x], argTypes := #[t, t] }) (base : Nat) (e : TypeId) (i : TypeInfo) (z : Value) (bytes : Nat) (ht : P.underlying t = some (.slice e)) (hi : P.info? e = some i) (hz : i.zero = some z)
    (hsize : i.size = 1) (hby : i.bytes = bytes) (hzs : z.cells.size = 1) (v : Value) (n : Nat) (xs : List Value) (hs : a.eval s = v) (hown : w.ownsRow base e 1 v n xs)
    (vx : Value) (l : List ByteArray) (hv : a.eval x = vx) (hx : IsTx w vx l) (h63 : n + l.length ≤ maxLen) (hbytes : (n + l.length) * bytes ≤ 140737488355328) (hbase : base ≤ w.heap.size)
    (h : ∀ v' w', w'.ownsRow base e 1 v' (n + l.length) (xs ++ Tr.cells l) → w.grownBy w' v.ownBlock → K (a.put o.dst v') w') :
    if Region.wanted o (yielded ops a.tmps) = true then Oper.wp P o a w K Q else E := by
  rw [if_pos hw]
  obtain ⟨v', w', hr, h2, h3⟩ := run_append_tx (P := P) w t o.type base e i z bytes ht hi hz hsize hby hzs v n xs hown vx l hx h63 hbytes hbase
  unfold Oper.wp execOp
  simp only [ho, resolve, invoke, builtin, Sem.run_bind, Sem.run_pure, Result.andThen_ok, List.map_toArray, List.map_cons, List.map_nil, hs, hv, hr]
  exact h v' w' h2 h3
/-- At the list of a plain region's operations. -/
theorem wpList_append_tx {P : Program} {ops : Array Oper} {rest : List Oper} {o : Oper} {a : Act} {w : World} {Q : Exit → Act → World → Prop} (hgd : o.guard = none) (s x : Operand) (t : TypeId)
    (ho : o.op = .call { callee := .builtin .append, args := #[s, x], argTypes := #[t, t] }) (base : Nat) (e : TypeId) (i : TypeInfo) (z : Value) (bytes : Nat) (ht : P.underlying t = some (.slice e)) (hi : P.info? e = some i) (hz : i.zero = some z)
    (hsize : i.size = 1) (hby : i.bytes = bytes) (hzs : z.cells.size = 1) (v : Value) (n : Nat) (xs : List Value) (hs : a.eval s = v) (hown : w.ownsRow base e 1 v n xs)
    (vx : Value) (l : List ByteArray) (hv : a.eval x = vx) (hx : IsTx w vx l) (h63 : n + l.length ≤ maxLen) (hbytes : (n + l.length) * bytes ≤ 140737488355328) (hbase : base ≤ w.heap.size)
    (h : ∀ v' w', w'.ownsRow base e 1 v' (n + l.length) (xs ++ Tr.cells l) → w.grownBy w' v.ownBlock → wpList P ops Q rest (a.put o.dst v') w') : wpList P ops Q (o :: rest) a w :=
  wpList_plain hgd fun _ hK => by
    obtain ⟨v', w', hr, h2, h3⟩ := run_append_tx (P := P) w t o.type base e i z bytes ht hi hz hsize hby hzs v n xs hown vx l hx h63 hbytes hbase
    unfold Oper.wp execOp
    simp only [ho, resolve, invoke, builtin, Sem.run_bind, Sem.run_pure, Result.andThen_ok, List.map_toArray, List.map_cons, List.map_nil, hs, hv, hr]
    exact hK _ _ (h v' w' h2 h3)

/-- The same where the operation is guarded. -/
theorem wpList_append_txg {P : Program} {ops : Array Oper} {rest : List Oper} {o : Oper} {a : Act} {w : World} {Q : Exit → Act → World → Prop} (hw : Region.wanted o (yielded ops a.tmps) = true) (s x : Operand) (t : TypeId)
    (ho : o.op = .call { callee := .builtin .append, args := #[s, x], argTypes := #[t, t] }) (base : Nat) (e : TypeId) (i : TypeInfo) (z : Value) (bytes : Nat) (ht : P.underlying t = some (.slice e)) (hi : P.info? e = some i) (hz : i.zero = some z)
    (hsize : i.size = 1) (hby : i.bytes = bytes) (hzs : z.cells.size = 1) (v : Value) (n : Nat) (xs : List Value) (hs : a.eval s = v) (hown : w.ownsRow base e 1 v n xs)
    (vx : Value) (l : List ByteArray) (hv : a.eval x = vx) (hx : IsTx w vx l) (h63 : n + l.length ≤ maxLen) (hbytes : (n + l.length) * bytes ≤ 140737488355328) (hbase : base ≤ w.heap.size)
    (h : ∀ v' w', w'.ownsRow base e 1 v' (n + l.length) (xs ++ Tr.cells l) → w.grownBy w' v.ownBlock → wpList P ops Q rest (a.put o.dst v') w') : wpList P ops Q (o :: rest) a w :=
  wpList_step fun K hK => by
    rw [if_pos hw]
    obtain ⟨v', w', hr, h2, h3⟩ := run_append_tx (P := P) w t o.type base e i z bytes ht hi hz hsize hby hzs v n xs hown vx l hx h63 hbytes hbase
    unfold Oper.wp execOp
    simp only [ho, resolve, invoke, builtin, Sem.run_bind, Sem.run_pure, Result.andThen_ok, List.map_toArray, List.map_cons, List.map_nil, hs, hv, hr]
    exact hK _ _ (h v' w' h2 h3)

/-- Onto an empty slice without capacity: as onto nil. -/
theorem run_append_empty {P : Program} (w : World) (t ty : TypeId) (base : Nat) (e : TypeId) (i : TypeInfo) (z : Value) (bytes : Nat) (ht : P.underlying t = some (.slice e)) (hi : P.info? e = some i) (hz : i.zero = some z)
    (hsize : i.size = 1) (hby : i.bytes = bytes) (hzs : z.cells.size = 1) (a0 : Option Addr)
    (vx : Value) (l : List ByteArray) (hx : IsTx w vx l) (h0 : l ≠ []) (h63 : l.length ≤ maxLen) (hbytes : l.length * bytes ≤ 140737488355328) (hbase : base ≤ w.heap.size) :
    ∃ v' w', (Builtin.append_ #[t, t] ty #[.slice a0 0 0, vx]).run P w = .ok v' w' ∧ w'.ownsRow base e 1 v' l.length (Tr.cells l) ∧ Below w.heap.size w w' := by
  obtain ⟨v', w', h1, h2, h3⟩ := run_append_tx (P := P) w t ty base e i z bytes ht hi hz hsize hby hzs (.slice none 0 0) 0 [] (World.ownsRow_nil _ _ _ _) vx l hx (by omega) (by rw [Nat.zero_add]; exact hbytes) hbase
  rw [Nat.zero_add, List.nil_append] at h2
  have hb : Below w.heap.size w w' := (Below.refl _ _).grown h3 (Nat.le_refl _) (fun k h => by cases h)
  refine ⟨v', w', ?_, h2, hb⟩
  cases a0 with
  | none => exact h1
  | some a =>
    obtain ⟨ax, cx, rfl, g1, g2, hc⟩ := hx
    obtain ⟨b, off, rfl, hlt, hc⟩ := hc h0
    have hp : 0 < l.length := by
      rcases Nat.eq_zero_or_pos l.length with h | h
      · exact absurd (List.length_eq_zero_iff.1 h) h0
      · exact h
    have hn : ¬ l.length = 0 := by omega
    have hno : ¬ (281474976710656 < Builtin.nextslicecap l.length 0 * i.bytes) := by
      have := growslice_fits (need := l.length) (old := 0) (bytes := i.bytes) hp (by rw [hby]; exact hbytes)
      omega
    rw [← h1]
    simp [Builtin.append_, run_underlying ht, Builtin.lenOf, Builtin.firstCells, sizeOf, typeInfo, hi, hsize, Result.andThen, loadCells, loadCellsFrom, hn, hno]

/-- A slice of the call's own, or an empty one without capacity. -/
def OwnE (w : World) (base : Nat) (e : TypeId) (v : Value) (n : Nat) (xs : List Value) : Prop := w.ownsRow base e 1 v n xs ∨ (n = 0 ∧ xs = [] ∧ ∃ b, v = .slice b 0 0)
theorem OwnE.below {w w' : World} {base : Nat} {e : TypeId} {v : Value} {n : Nat} {xs : List Value} (hb : Below w.heap.size w w') (h : OwnE w base e v n xs) : OwnE w' base e v n xs := h.imp (fun h => own_below h hb) id
theorem OwnE.alloc {w : World} {base : Nat} {e : TypeId} {v : Value} {n : Nat} {xs : List Value} (o : Obj) (h : OwnE w base e v n xs) : OwnE (w.alloc o) base e v n xs := h.imp (fun h => h.alloc o) id

/-- append of a slice of texts onto an empty slice without capacity, at a step of a region that draws its order. -/
theorem step_append_e0 {P : Program} {ops : Array Oper} {o : Oper} {a : Act} {w : World} {K : Act → World → Prop} {Q : Exit → Act → World → Prop} {E : Prop} (hw : Region.wanted o (yielded ops a.tmps) = true) (s x : Operand) (t : TypeId)
    (ho : o.op = .call { callee := .builtin .append, args := #[s, x], argTypes := #[t, t] }) (base : Nat) (e : TypeId) (i : TypeInfo) (z : Value) (bytes : Nat) (ht : P.underlying t = some (.slice e)) (hi : P.info? e = some i) (hz : i.zero = some z)
    (hsize : i.size = 1) (hby : i.bytes = bytes) (hzs : z.cells.size = 1) (a0 : Option Addr) (hs : a.eval s = .slice a0 0 0)
    (vx : Value) (l : List ByteArray) (hv : a.eval x = vx) (hx : IsTx w vx l) (h63 : l.length ≤ maxLen) (hbytes : l.length * bytes ≤ 140737488355328) (hbase : base ≤ w.heap.size)
    (h : ∀ v' w', OwnE w' base e v' l.length (Tr.cells l) → Below w.heap.size w w' → K (a.put o.dst v') w') :
    if Region.wanted o (yielded ops a.tmps) = true then Oper.wp P o a w K Q else E := by
  rw [if_pos hw]
  have key : ∃ v' w', (Builtin.append_ #[t, t] o.type #[.slice a0 0 0, vx]).run P w = .ok v' w' ∧ OwnE w' base e v' l.length (Tr.cells l) ∧ Below w.heap.size w w' := by
    by_cases h0 : l = []
    · subst h0
      obtain ⟨ax, cx, rfl, _, _, _⟩ := hx
      exact ⟨_, _, run_append_nothing w t o.type e i ht hi a0 ax 0 0 cx (Nat.le_refl _), .inr ⟨rfl, rfl, a0, rfl⟩, Below.refl _ _⟩
    · obtain ⟨v', w', h1, h2, h3⟩ := run_append_empty (P := P) w t o.type base e i z bytes ht hi hz hsize hby hzs a0 vx l hx h0 h63 hbytes hbase
      exact ⟨v', w', h1, .inl h2, h3⟩
  obtain ⟨v', w', hr, h2, h3⟩ := key
  unfold Oper.wp execOp
  simp only [ho, resolve, invoke, builtin, Sem.run_bind, Sem.run_pure, Result.andThen_ok, List.map_toArray, List.map_cons, List.map_nil, hs, hv, hr]
  exact h v' w' h2 h3
/-- append of some texts onto a slice of the call's own, or an empty one, at a step of a region that draws its order. -/
theorem step_append_e {P : Program} {ops : Array Oper} {o : Oper} {a : Act} {w : World} {K : Act → World → Prop} {Q : Exit → Act → World → Prop} {E : Prop} (hw : Region.wanted o (yielded ops a.tmps) = true) (s x : Operand) (t : TypeId)
    (ho : o.op = .call { callee := .builtin .append, args := #[s, x], argTypes := #[t, t] }) (base : Nat) (e : TypeId) (i : TypeInfo) (z : Value) (bytes : Nat) (ht : P.underlying t = some (.slice e)) (hi : P.info? e = some i) (hz : i.zero = some z)
    (hsize : i.size = 1) (hby : i.bytes = bytes) (hzs : z.cells.size = 1) (v : Value) (n : Nat) (xs : List Value) (hs : a.eval s = v) (hown : OwnE w base e v n xs)
    (vx : Value) (l : List ByteArray) (hv : a.eval x = vx) (hx : IsTx w vx l) (h0 : l ≠ []) (h63 : n + l.length ≤ maxLen) (hbytes : (n + l.length) * bytes ≤ 140737488355328) (hbase : base ≤ w.heap.size)
    (h : ∀ v' w', w'.ownsRow base e 1 v' (n + l.length) (xs ++ Tr.cells l) → Below base w w' → K (a.put o.dst v') w') :
    if Region.wanted o (yielded ops a.tmps) = true then Oper.wp P o a w K Q else E := by
  rcases hown with hown | ⟨rfl, rfl, b, rfl⟩
  · exact step_append_tx hw s x t ho base e i z bytes ht hi hz hsize hby hzs v n xs hs hown vx l hv hx h63 hbytes hbase fun v' w' h1 h2 => h v' w' h1 ((Below.refl _ _).grown h2 hbase (fun k hk => (hown.lt k hk).1))
  · rw [if_pos hw]
    obtain ⟨v', w', hr, h2, h3⟩ := run_append_empty (P := P) w t o.type base e i z bytes ht hi hz hsize hby hzs b vx l hx h0 (by omega) (by rw [Nat.zero_add] at hbytes; exact hbytes) hbase
    unfold Oper.wp execOp
    simp only [ho, resolve, invoke, builtin, Sem.run_bind, Sem.run_pure, Result.andThen_ok, List.map_toArray, List.map_cons, List.map_nil, hs, hv, hr]
    exact h v' w' (by rw [Nat.zero_add, List.nil_append]; exact h2) (h3.mono hbase)
end Go.Proofs.YthhfcijgcpnfcaaDoor
