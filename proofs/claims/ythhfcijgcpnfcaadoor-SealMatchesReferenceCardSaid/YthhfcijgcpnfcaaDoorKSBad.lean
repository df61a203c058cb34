import Derived.Test.YthhfcijgcpnfcaaDoorKSChecked
import Derived.Deep.DeepCutAuto
import Derived.Laws.OwnMore
/-
  A seal in a variable of the call's own, whose two slices are the call's own, too: what SealChanges turns.
-/
namespace Go.Proofs.YthhfcijgcpnfcaaDoor
open Go.RowKit

theorem own_shape {w : World} {base : Nat} {e : TypeId} {v : Value} {n : Nat} {xs : List Value} (h : OwnE w base e v n xs) : ∃ a cap, v = .slice a n cap := by
  rcases h with h | ⟨rfl, _, b, rfl⟩
  · rcases h.2 with ⟨rfl, rfl⟩ | ⟨g, cap, cur, rfl, _⟩
    · exact ⟨_, _, rfl⟩
    · exact ⟨_, _, rfl⟩
  · exact ⟨_, _, rfl⟩
/-- append of a slice of texts onto an empty slice without capacity: what is answered is a slice. -/
theorem step_append_s {P : Program} {ops : Array Oper} {o : Oper} {a : Act} {w : World} {K : Act → World → Prop} {Q : Exit → Act → World → Prop} {E : Prop} (hw : Region.wanted o (yielded ops a.tmps) = true) (s x : Operand) (t : TypeId)
    (ho : o.op = .call { callee := .builtin .append, args := #[s, x], argTypes := #[t, t] }) (base : Nat) (e : TypeId) (i : TypeInfo) (z : Value) (bytes : Nat) (ht : P.underlying t = some (.slice e)) (hi : P.info? e = some i) (hz : i.zero = some z)
    (hsize : i.size = 1) (hby : i.bytes = bytes) (hzs : z.cells.size = 1) (a0 : Option Addr) (hs : a.eval s = .slice a0 0 0)
    (vx : Value) (l : List ByteArray) (hv : a.eval x = vx) (hx : IsTx w vx l) (h63 : l.length ≤ maxLen) (hbytes : l.length * bytes ≤ 140737488355328) (hbase : base ≤ w.heap.size) (N : Nat) (hN : l.length = N)
    (h : ∀ b cap w', OwnE w' base e (.slice b N cap) l.length (Tr.cells l) → Below w.heap.size w w' → K (a.put o.dst (.slice b N cap)) w') :
    if Region.wanted o (yielded ops a.tmps) = true then Oper.wp P o a w K Q else E :=
  step_append_e0 hw s x t ho base e i z bytes ht hi hz hsize hby hzs a0 hs vx l hv hx h63 hbytes hbase fun v' w' h1 h2 => by
    obtain ⟨b, cap, rfl⟩ := own_shape h1
    rw [hN] at h1 ⊢
    exact h b cap w' (by rw [hN]; exact h1) h2

/-- A seal's variable, just made. -/
abbrev zeros : Obj := .cells #[.int .i64 0, .slice none 0 0, .slice none 0 0] 24
def Zero (w : World) (g : Nat) : Prop := w.heap[g]? = some (.cells #[.int .i64 0, .slice none 0 0, .slice none 0 0] 24 (0, 0))
theorem Zero.one (w : World) : Zero (w.alloc zeros) w.heap.size := heap_alloc_new _ _
theorem Zero.two (w : World) (o : Obj) : Zero ((w.alloc o).alloc zeros) (w.heap.size + 1) := by have := Zero.one (w.alloc o); simpa using this
theorem Zero.three (w : World) (o p : Obj) : Zero (((w.alloc o).alloc p).alloc zeros) (w.heap.size + 1 + 1) := by have := Zero.one ((w.alloc o).alloc p); simpa using this
theorem Zero.below {w w' : World} {g : Nat} (hb : Below w.heap.size w w') (h : Zero w g) : Zero w' g := (hb.block _ (lt_of_block h)).trans h
theorem Zero.alloc {w : World} {g : Nat} (h : Zero w g) (o : Obj) : Zero (w.alloc o) g := Zero.below ((Below.refl _ _).alloc (Nat.le_refl _) o) h
theorem Zero.drew {w : World} {g : Nat} (h : Zero w g) : Zero w.drew g := h
theorem Zero.facts {w : World} {g : Nat} (h : Zero w g) : (w.cell? ⟨g, 0, none⟩ = some (.int .i64 0) ∧ w.cell? ⟨g, 1, none⟩ = some (.slice none 0 0) ∧ w.cell? ⟨g, 2, none⟩ = some (.slice none 0 0)) ∧
    w.frozen? ⟨g, 0, none⟩ = false ∧ w.frozen? ⟨g, 1, none⟩ = false ∧ w.frozen? ⟨g, 2, none⟩ = false :=
  ⟨⟨Joins.cell_of_block h 0, Joins.cell_of_block h 1, Joins.cell_of_block h 2⟩, Joins.unfrozen_of_block h 0, Joins.unfrozen_of_block h 1, Joins.unfrozen_of_block h 2⟩

theorem two_b {w7 c w8 : World} (h : Below w7.heap.size w7 c) (hb8 : Below c.heap.size c w8) : w7.heap.size ≤ c.heap.size ∧ Below w7.heap.size w7 w8 := ⟨h.size, h.trans (hb8.mono h.size)⟩
/-- A row of texts of the call's own, its block from lo to below hi. -/
def Row1 (B : Nat) (w : World) (lo hi : Nat) (v : Value) (l : List ByteArray) : Prop := ∃ g c, v = .slice (some ⟨g, 0, none⟩) l.length c ∧ lo ≤ g ∧ g < hi ∧ w.ownsRow B 9 1 v l.length (Tr.cells l)
def RowE (B : Nat) (w : World) (lo hi : Nat) (v : Value) (l : List ByteArray) : Prop := (l = [] ∧ ∃ b, v = .slice b 0 0) ∨ Row1 B w lo hi v l
theorem own_base {w : World} {B B' : Nat} {e : TypeId} {size : Nat} {v : Value} {n : Nat} {xs : List Value} (h : w.ownsRow B' e size v n xs) (hB : B ≤ B') : w.ownsRow B e size v n xs :=
  ⟨h.1, h.2.imp id (fun ⟨g, cap, cur, a, b, r⟩ => ⟨g, cap, cur, a, Nat.le_trans hB b, r⟩)⟩
theorem RowE.of {w : World} {B B' : Nat} {v : Value} {l : List ByteArray} (h : OwnE w B' 9 v l.length (Tr.cells l)) (hB : B ≤ B') : RowE B w B' w.heap.size v l := by
  rcases h with h | ⟨h1, _, b, rfl⟩
  · have h' := h
    rcases h.2 with ⟨rfl, h0⟩ | ⟨g, cap, cur, rfl, hb, hg, r⟩
    · exact .inl ⟨List.length_eq_zero_iff.1 h0, none, rfl⟩
    · exact .inr ⟨g, cap, rfl, hb, lt_of_block hg, own_base h' hB⟩
  · exact .inl ⟨List.length_eq_zero_iff.1 h1, b, rfl⟩
theorem RowE.one {w : World} {B lo hi : Nat} {v : Value} {l : List ByteArray} (h : RowE B w lo hi v l) (hl : l ≠ []) : Row1 B w lo hi v l := by
  rcases h with ⟨h, _⟩ | h
  · exact absurd h hl
  · exact h
theorem Row1.kept {w w' : World} {B lo hi q : Nat} {v : Value} {l : List ByteArray} (h : Row1 B w lo hi v l) (hg : w.grownBy w' (some q)) (hq : q < lo ∨ hi ≤ q) : Row1 B w' lo hi v l := by
  obtain ⟨g, c, rfl, h1, h2, h3⟩ := h
  exact ⟨g, c, rfl, h1, h2, h3.kept hg (.inr (by simp [Value.ownBlock]; omega))⟩
theorem RowE.kept {w w' : World} {B lo hi q : Nat} {v : Value} {l : List ByteArray} (h : RowE B w lo hi v l) (hg : w.grownBy w' (some q)) (hq : q < lo ∨ hi ≤ q) : RowE B w' lo hi v l := h.imp id (fun h => h.kept hg hq)
theorem Row1.below {w w' : World} {B lo hi : Nat} {v : Value} {l : List ByteArray} (h : Row1 B w lo hi v l) (hb : Below w.heap.size w w') : Row1 B w' lo hi v l := by
  obtain ⟨g, c, rfl, h1, h2, h3⟩ := h
  exact ⟨g, c, rfl, h1, h2, own_below h3 hb⟩
theorem RowE.below {w w' : World} {B lo hi : Nat} {v : Value} {l : List ByteArray} (h : RowE B w lo hi v l) (hb : Below w.heap.size w w') : RowE B w' lo hi v l := h.imp id (fun h => h.below hb)
theorem Row1.tx {w : World} {B lo hi : Nat} {v : Value} {l : List ByteArray} (h : Row1 B w lo hi v l) : IsTx w v l := by
  obtain ⟨g, c, rfl, h1, h2, h3⟩ := h
  exact own_tx h3
theorem RowE.tx {w : World} {B lo hi : Nat} {v : Value} {l : List ByteArray} (h : RowE B w lo hi v l) : IsTx w v l := by
  rcases h with ⟨rfl, b, rfl⟩ | h
  · exact ⟨b, 0, rfl, Nat.le_refl _, by decide, fun h => absurd rfl h⟩
  · exact h.tx
theorem grown_put (w : World) (g j : Nat) (u : Value) : w.grownBy (w.setCell ⟨g, j, none⟩ u) (some g) :=
  ⟨rfl, rfl, rfl, by simp, fun k _ hk => heap_setCell_other w ⟨g, j, none⟩ k u (fun e => hk (by simp [e]))⟩
theorem cells_set (l : List ByteArray) (k : Nat) (x : ByteArray) : (Tr.cells l).set k (.string x) = Tr.cells (l.set k x) := by simp [Tr.cells, List.map_set]
theorem Row1.set {w : World} {B lo hi g c k : Nat} {l : List ByteArray} {x : ByteArray} (h : Row1 B w lo hi (.slice (some ⟨g, 0, none⟩) l.length c) l) : Row1 B (w.setCell ⟨g, k, none⟩ (.string x)) lo hi (.slice (some ⟨g, 0, none⟩) l.length c) (l.set k x) := by
  obtain ⟨g', c', e, h1, h2, h3⟩ := h
  cases e
  have := (h3.stored k (.string x)).1
  rw [cells_set] at this
  exact ⟨g, c, by rw [List.length_set], h1, h2, by rw [List.length_set]; exact this⟩

/-- The variable at g with both slices, apart from each other and from the variable. -/
def Bad (W wx : World) (i : Int) (ls lp : List ByteArray) (g : Nat) (v1 v2 : Value) : Prop :=
  wx.heap[g]? = some (.cells #[.int .i64 i, v1, v2] 24 (0, 0)) ∧ Tr.Old W wx ∧ W.heap.size ≤ g ∧
  ∃ lo1 hi1 lo2 hi2, Row1 W.heap.size wx lo1 hi1 v1 ls ∧ RowE W.heap.size wx lo2 hi2 v2 lp ∧ W.heap.size ≤ lo1 ∧ hi1 ≤ lo2 ∧ (g < lo1 ∨ hi1 ≤ g) ∧ (g < lo2 ∨ hi2 ≤ g)
theorem Bad.fresh {W w7 w8 : World} {i : Int} {ls lp : List ByteArray} {v1 v2 : Value} {B7 B8 : Nat} (h7 : OwnE w7 B7 9 v1 ls.length (Tr.cells ls)) (h8 : OwnE w8 B8 9 v2 lp.length (Tr.cells lp)) (hne : ls ≠ [])
    (hb : Below w7.heap.size w7 w8) (hB7 : W.heap.size ≤ B7) (hB8 : w7.heap.size ≤ B8) (hO7 : Tr.Old W w7) (hO : Tr.Old W w8) : Bad W (w8.alloc (.cells #[.int .i64 i, v1, v2] 24)) i ls lp w8.heap.size v1 v2 :=
  ⟨heap_alloc_new _ _, Tr.Old.alloc _ hO, hO.out.size, B7, w7.heap.size, B8, w8.heap.size, (((RowE.of h7 hB7).one hne).below hb).below ((Below.refl _ _).alloc (Nat.le_refl _) _),
    (RowE.of h8 (Nat.le_trans hO7.out.size hB8)).below ((Below.refl _ _).alloc (Nat.le_refl _) _), hB7, hB8, .inr hb.size, .inr (Nat.le_refl _)⟩
theorem Bad.put {W w7 w8 : World} {i : Int} {ls lp : List ByteArray} {v1 v2 : Value} {B7 B8 g : Nat} (h7 : OwnE w7 B7 9 v1 ls.length (Tr.cells ls)) (h8 : OwnE w8 B8 9 v2 lp.length (Tr.cells lp)) (hne : ls ≠ [])
    (hb : Below w7.heap.size w7 w8) (hB7 : W.heap.size ≤ B7) (hB8 : w7.heap.size ≤ B8) (hO7 : Tr.Old W w7) (hO : Tr.Old W w8) (hz : Zero w8 g) (hW : W.heap.size ≤ g) (hg : g < B7 ∨ (w7.heap.size ≤ g ∧ g < B8)) :
    Bad W (((w8.setCell ⟨g, 0, none⟩ (.int .i64 i)).setCell ⟨g, 1, none⟩ v1).setCell ⟨g, 2, none⟩ v2) i ls lp g v1 v2 := by
  have hB77 : B7 ≤ w7.heap.size := by
    obtain ⟨g1, _, _, q1, q2, _⟩ := (RowE.of h7 hB7).one hne
    omega
  have k : ∀ {w : World} {j : Nat} {u : Value}, Row1 W.heap.size w B7 w7.heap.size v1 ls → Row1 W.heap.size (w.setCell ⟨g, j, none⟩ u) B7 w7.heap.size v1 ls := fun h => h.kept (grown_put _ _ _ _) (by omega)
  have k2 : ∀ {w : World} {j : Nat} {u : Value}, RowE W.heap.size w B8 w8.heap.size v2 lp → RowE W.heap.size (w.setCell ⟨g, j, none⟩ u) B8 w8.heap.size v2 lp := fun h => h.kept (grown_put _ _ _ _) (.inl (by omega))
  exact ⟨seal_set hz _ _ _, Tr.Old.of (seal_below hO.out hW _ _ _), hW, B7, w7.heap.size, B8, w8.heap.size, k (k (k (((RowE.of h7 hB7).one hne).below hb))), k2 (k2 (k2 (RowE.of h8 (Nat.le_trans hO7.out.size hB8)))), hB7, hB8, by omega, by omega⟩
theorem Bad.seal {W wx : World} {i : Int} {ls lp : List ByteArray} {g : Nat} {v1 v2 : Value} (h : Bad W wx i ls lp g v1 v2) : IsSeal wx (.agg #[.int .i64 i, v1, v2]) i ls lp := by
  obtain ⟨_, _, _, lo1, hi1, lo2, hi2, h1, h2, _⟩ := h
  exact ⟨v1, v2, rfl, h1.tx, h2.tx⟩
theorem Bad.cells {W wx : World} {i : Int} {ls lp : List ByteArray} {g : Nat} {v1 v2 : Value} (h : Bad W wx i ls lp g v1 v2) : ∀ w', Tr.Old wx w' → w'.cell? ⟨g, 0, none⟩ = some (.int .i64 i) ∧ w'.cell? ⟨g, 1, none⟩ = some v1 ∧ w'.cell? ⟨g, 2, none⟩ = some v2 :=
  fun _ hw => seal_block hw.out h.1
theorem Bad.free {W wx : World} {i : Int} {ls lp : List ByteArray} {g : Nat} {v1 v2 : Value} (h : Bad W wx i ls lp g v1 v2) : wx.frozen? ⟨g, 0, none⟩ = false := Joins.unfrozen_of_block h.1 0
/-- What one must know to store into the signature. -/
theorem Bad.sig {W wx : World} {i : Int} {ls lp : List ByteArray} {g : Nat} {v1 v2 : Value} (h : Bad W wx i ls lp g v1 v2) (k : Nat) (hk : k < ls.length) (x : ByteArray) :
    ∃ g1 c1, v1 = .slice (some ⟨g1, 0, none⟩) ls.length c1 ∧ wx.cell? ⟨g1, k, none⟩ = some (.string (ls.getD k ByteArray.empty)) ∧ wx.frozen? ⟨g1, k, none⟩ = false ∧ Bad W (wx.setCell ⟨g1, k, none⟩ (.string x)) i (ls.set k x) lp g v1 v2 ∧ ls.length ≤ c1 ∧ c1 ≤ 9223372036854775807 := by
  obtain ⟨h0, hO, hW, lo1, hi1, lo2, hi2, h1, h2, h3, h4, h5⟩ := h
  have h1' := h1
  obtain ⟨g1, c1, rfl, p1, p2, p3⟩ := h1
  have p3' := p3
  obtain ⟨_, _, e, hcap, hmax, _⟩ := own_tx p3
  cases e
  refine ⟨g1, c1, rfl, ?_, p3'.frozenAt k, ⟨?_, ?_, hW, lo1, hi1, lo2, hi2, h1'.set, ?_, h3, h4, h5⟩, hcap, hmax⟩
  · rw [p3'.cellAt k (by omega)]
    unfold Tr.cells
    rw [List.getElem?_map, List.getElem?_eq_getElem hk, List.getD_eq_getElem?_getD, List.getElem?_eq_getElem hk]
    rfl
  · rw [heap_setCell_other _ ⟨g1, k, none⟩ _ _ (show g ≠ g1 by omega)]
    exact h0
  · exact Tr.Old.of (Below.setCell (p := ⟨g1, k, none⟩) hO.out (Nat.le_trans h3 p1) _)
  · rcases h2 with h2 | h2
    · exact .inl h2
    · exact .inr (h2.kept (grown_put _ _ _ _) (.inl (by omega)))
/-- .. into the path. -/
theorem Bad.path {W wx : World} {i : Int} {ls lp : List ByteArray} {g : Nat} {v1 v2 : Value} (h : Bad W wx i ls lp g v1 v2) (k : Nat) (hk : k < lp.length) (x : ByteArray) :
    ∃ g2 c2, v2 = .slice (some ⟨g2, 0, none⟩) lp.length c2 ∧ wx.cell? ⟨g2, k, none⟩ = some (.string (lp.getD k ByteArray.empty)) ∧ wx.frozen? ⟨g2, k, none⟩ = false ∧ Bad W (wx.setCell ⟨g2, k, none⟩ (.string x)) i ls (lp.set k x) g v1 v2 ∧ lp.length ≤ c2 ∧ c2 ≤ 9223372036854775807 := by
  obtain ⟨h0, hO, hW, lo1, hi1, lo2, hi2, h1, h2, h3, h4, h5⟩ := h
  have h2 := h2.one (by intro e; rw [e] at hk; simp at hk)
  have h2' := h2
  obtain ⟨g2, c2, rfl, p1, p2, p3⟩ := h2
  have p3' := p3
  obtain ⟨_, _, e, hcap, hmax, _⟩ := own_tx p3
  cases e
  have hlo : W.heap.size ≤ lo2 := by
    obtain ⟨g1, _, _, q1, q2, _⟩ := h1
    omega
  refine ⟨g2, c2, rfl, ?_, p3'.frozenAt k, ⟨?_, ?_, hW, lo1, hi1, lo2, hi2, h1.kept (grown_put _ _ _ _) (.inr (by omega)), .inr h2'.set, h3, h4, h5⟩, hcap, hmax⟩
  · rw [p3'.cellAt k (by omega)]
    unfold Tr.cells
    rw [List.getElem?_map, List.getElem?_eq_getElem hk, List.getD_eq_getElem?_getD, List.getElem?_eq_getElem hk]
    rfl
  · rw [heap_setCell_other _ ⟨g2, k, none⟩ _ _ (show g ≠ g2 by omega)]
    exact h0
  · exact Tr.Old.of (Below.setCell (p := ⟨g2, k, none⟩) hO.out (Nat.le_trans hlo p1) _)
/-- .. into the index. -/
theorem Bad.idx {W wx : World} {i : Int} {ls lp : List ByteArray} {g : Nat} {v1 v2 : Value} (h : Bad W wx i ls lp g v1 v2) (j : Int) : Bad W (wx.setCell ⟨g, 0, none⟩ (.int .i64 j)) j ls lp g v1 v2 := by
  obtain ⟨h0, hO, hW, lo1, hi1, lo2, hi2, h1, h2, h3, h4, h5, h6⟩ := h
  exact ⟨by rw [Joins.block_setCell h0]; rfl, Tr.Old.of (Below.setCell (p := ⟨g, 0, none⟩) hO.out hW _), hW, lo1, hi1, lo2, hi2, h1.kept (grown_put _ _ _ _) h5, h2.kept (grown_put _ _ _ _) h6, h3, h4, h5, h6⟩
theorem Bad.drew {W wx : World} {i : Int} {ls lp : List ByteArray} {g : Nat} {v1 v2 : Value} (h : Bad W wx i ls lp g v1 v2) : Bad W wx.drew i ls lp g v1 v2 := by
  obtain ⟨h0, hO, hW, lo1, hi1, lo2, hi2, h1, h2, h3, h4, h5, h6⟩ := h
  exact ⟨h0, Tr.Old.step ((Below.refl _ _).drew) hO, hW, lo1, hi1, lo2, hi2, h1.below ((Below.refl _ _).drew), h2.below ((Below.refl _ _).drew), h3, h4, h5, h6⟩
end Go.Proofs.YthhfcijgcpnfcaaDoor
