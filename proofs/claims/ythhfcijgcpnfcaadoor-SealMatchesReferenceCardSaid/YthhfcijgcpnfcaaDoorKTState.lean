import Derived.Test.YthhfcijgcpnfcaaDoorKTTx
import Derived.Deep.AppendLies
import Derived.OneCell
/-
  A slice of texts that a call builds up in a variable of its own, a closure beside it: what holds of the memory, and how it goes on.
-/
namespace Go.Proofs.YthhfcijgcpnfcaaDoor
open Go.RowKit

/-- The cells of a list of texts. -/
abbrev Tr.cells (l : List ByteArray) : List Value := l.map Value.string
theorem one_str : (Tryd.prog.info? 9).map (fun i => (i.zero, i.size, i.bytes)) = some (some (.string ⟨#[]⟩), 1, 16) := by kernel_rfl

/-- A row that the call owns stays where nothing old has turned. -/
theorem own_below {w w' : World} {base : Nat} {e : TypeId} {size : Nat} {v : Value} {n : Nat} {xs : List Value} (h : w.ownsRow base e size v n xs) (hb : Below w.heap.size w w') : w'.ownsRow base e size v n xs := by
  refine ⟨h.1, ?_⟩
  rcases h.2 with hn | ⟨g, cap, cur, rfl, hb', hg, rest⟩
  · exact .inl hn
  · exact .inr ⟨g, cap, cur, rfl, hb', (hb.block g (lt_of_block hg)).trans hg, rest⟩
theorem own_set {w : World} {base : Nat} {e : TypeId} {size : Nat} {v : Value} {n : Nat} {xs : List Value} (h : w.ownsRow base e size v n xs) {a : Addr} (ha : a.block < base) (u : Value) : (w.setCell a u).ownsRow base e size v n xs :=
  ownsRow_setCell_below h ha u

/-- A row of texts read as a slice. -/
theorem own_tx {w : World} {base : Nat} {v : Value} {l : List ByteArray} (h : w.ownsRow base 9 1 v l.length (Tr.cells l)) : IsTx w v l := by
  have hb := h
  obtain ⟨_, h2⟩ := h
  rcases h2 with ⟨rfl, h0⟩ | ⟨g, cap, cur, rfl, _, hg, hle, hcap, _, _⟩
  · have : l = [] := List.length_eq_zero_iff.1 h0
    subst this
    exact IsTx.nil w
  · refine ⟨some ⟨g, 0, none⟩, cap, rfl, hle, by unfold maxLen at hcap; omega, fun _ => ⟨g, 0, rfl, lt_of_block hg, fun j hj => ?_⟩⟩
    have hc := hb.cells (g := g) rfl j (.string (l.getD j ByteArray.empty)) (by
      rw [List.getElem?_map, List.getElem?_eq_getElem hj, Dg.getD_eq l j hj]; rfl)
    rw [Go.WideShapes.add_plain] at hc
    exact hc

/-- The variable in block B holds a slice of the texts l that the call owns; the closure's variable is block B + 1; nothing below B has turned since w0. -/
structure PSt (B : Nat) (w0 : World) (fn : Value) (l : List ByteArray) (pv : Value) (w : World) : Prop where
  old : Below B w0 w
  fnc : w.cell? ⟨B + 1, 0, none⟩ = some fn
  var : w.heap[B]? = some (.cells #[pv] 22 (0, 0))
  own : w.ownsRow (B + 2) 9 1 pv l.length (Tr.cells l)

theorem PSt.size {B : Nat} {w0 : World} {fn pv : Value} {l : List ByteArray} {w : World} (h : PSt B w0 fn l pv w) : B + 2 ≤ w.heap.size := by
  have := block_lt_of_cell h.fnc
  exact this
theorem PSt.drew {B : Nat} {w0 : World} {fn pv : Value} {l : List ByteArray} {w : World} (h : PSt B w0 fn l pv w) : PSt B w0 fn l pv w.drew :=
  ⟨h.old.drew, h.fnc, h.var, h.own⟩
theorem PSt.below {B : Nat} {w0 : World} {fn pv : Value} {l : List ByteArray} {w w' : World} (h : PSt B w0 fn l pv w) (hb : Below w.heap.size w w') : PSt B w0 fn l pv w' :=
  ⟨h.old.trans (hb.mono (by have := h.size; omega)), (hb.cell (block_lt_of_cell h.fnc)).trans h.fnc, (hb.block _ (lt_of_block h.var)).trans h.var, own_below h.own hb⟩
/-- Behind the append, ahead of the store: the variable still holds the old slice. -/
theorem PSt.grown {B : Nat} {w0 : World} {fn pv : Value} {l : List ByteArray} {w w' : World} (h : PSt B w0 fn l pv w) (o : Obj) (hg : (w.alloc o).grownBy w' pv.ownBlock) :
    Below B w0 w' ∧ w'.cell? ⟨B + 1, 0, none⟩ = some fn ∧ w'.heap[B]? = some (.cells #[pv] 22 (0, 0)) := by
  have hs := h.size
  have hlt : ∀ k, pv.ownBlock = some k → B + 2 ≤ k := fun k hk => (h.own.lt k hk).1
  have hne : ∀ j, j < B + 2 → some j ≠ pv.ownBlock := fun j hj e => by have := hlt j e.symm; omega
  have hsz : (w.alloc o).heap.size = w.heap.size + 1 := by simp
  refine ⟨(h.old.alloc (by omega) o).grown hg (by omega) (fun k hk => by have := hlt k hk; omega), ?_, ?_⟩
  · rw [hg.cell_far ⟨B + 1, 0, none⟩ (by show B + 1 < _; omega) (hne (B + 1) (by omega))]
    exact (World.cell?_alloc_lt _ _ _ (block_lt_of_cell h.fnc)).trans h.fnc
  · rw [hg.block B (by omega) (hne B (by omega))]
    exact (Below.heap_alloc w o B (by omega)).trans h.var
/-- Behind the store. -/
theorem PSt.push {B : Nat} {w0 : World} {fn pv nv : Value} {l m : List ByteArray} {w w' : World} (h : PSt B w0 fn l pv w) (o : Obj) (hg : (w.alloc o).grownBy w' pv.ownBlock)
    (hown : w'.ownsRow (B + 2) 9 1 nv m.length (Tr.cells m)) : PSt B w0 fn m nv (w'.setCell ⟨B, 0, none⟩ nv) := by
  obtain ⟨h1, h2, h3⟩ := h.grown o hg
  refine ⟨h1.setCell (Nat.le_refl _) nv, ?_, one_setCell h3, own_set hown (by show B < B + 2; omega) nv⟩
  exact (World.cell?_of_block (w := w') (Below.heap_setCell w' ⟨B, 0, none⟩ nv (B + 1) (by show B + 1 ≠ B; omega))).trans h2

/-- What the closure leaves: the texts behind what was there. -/
def SlOut (w0 : World) (fn : Value) (cur : List ByteArray) (p : List Tr.T) (w' : World) : Prop :=
  ∃ (nv : Value) (ps : List ByteArray), PSt w0.heap.size w0 fn (cur ++ ps) nv w' ∧ Hid (Tr.bs ps = p) ∧ (∀ s ∈ ps, s.size ≤ 16)

theorem Tr.bs_snoc {ps : List ByteArray} {r : ByteArray} {p : List Tr.T} {d : Tr.T} (h : Hid (Tr.bs ps = p)) (hr : Hid (r.data.toList = d)) : Hid (Tr.bs (ps ++ [r]) = p ++ [d]) := by
  show _ = _
  rw [← h.out, ← hr.out]; simp
theorem Tr.len_of {ps : List ByteArray} {p : List Tr.T} (h : Hid (Tr.bs ps = p)) : ps.length = p.length := by
  rw [← h.out, Tr.bs_len]
theorem Tr.small_snoc {ps : List ByteArray} {r : ByteArray} {n : Nat} (h : ∀ s ∈ ps, s.size ≤ n) (hr : r.size ≤ n) : ∀ s ∈ ps ++ [r], s.size ≤ n := by
  intro s hs
  rcases List.mem_append.1 hs with hs | hs
  · exact h s hs
  · rw [List.mem_singleton] at hs; rw [hs]; exact hr
theorem Tr.cells_snoc (l : List ByteArray) (r : ByteArray) : Tr.cells (l ++ [r]) = Tr.cells l ++ [.string r] := by simp [Tr.cells]
theorem own_snoc {w : World} {base : Nat} {v : Value} {l : List ByteArray} {r : ByteArray} (h : w.ownsRow base 9 1 v (l.length + 1) (Tr.cells l ++ [.string r])) : w.ownsRow base 9 1 v (l ++ [r]).length (Tr.cells (l ++ [r])) := by
  rw [Tr.cells_snoc, List.length_append]; exact h

/-- Behind an append and the store. -/
theorem sl_push {fn : Value} {w0 w1 w2 w3 : World} {cur ps : List ByteArray} {nv : Value} {r : ByteArray} {p : List Tr.T} {d : Tr.T} {g cap : Nat} {o : Obj} (h : PSt w0.heap.size w0 fn (cur ++ ps) nv w1) (hb : Below w1.heap.size w1 w2)
    (hps : Hid (Tr.bs ps = p)) (hz : ∀ s ∈ ps, s.size ≤ 16) (hr : Hid (r.data.toList = d)) (hrz : r.size ≤ 16)
    (hown : w3.ownsRow (w0.heap.size + 2) 9 1 (.slice (some ⟨g, 0, none⟩) ((cur ++ ps).length + 1) cap) ((cur ++ ps).length + 1) (Tr.cells (cur ++ ps) ++ [.string r])) (hg : (w2.alloc o).grownBy w3 nv.ownBlock) :
    SlOut w0 fn cur (p ++ [d]) (w3.setCell ⟨w0.heap.size, 0, none⟩ (.slice (some ⟨g, 0, none⟩) (cur.length + ps.length + 1) cap)) := by
  have h1 := (h.below hb).push o hg (own_snoc hown)
  rw [List.append_assoc] at h1
  rw [← List.length_append]
  exact ⟨_, ps ++ [r], h1, Tr.bs_snoc hps hr, Tr.small_snoc hz hrz⟩
end Go.Proofs.YthhfcijgcpnfcaaDoor
