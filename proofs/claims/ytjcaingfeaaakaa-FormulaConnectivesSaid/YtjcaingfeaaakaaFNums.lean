/-
  Slices of numbers that a call has made.
-/
import Derived.Test.YtjcaingfeaaakaaFMem
import Derived.OwnWalk
import Derived.Laws.OwnMore
namespace Go.Proofs.Ytjcaingfeaaakaa
open Go.RowKit

theorem one_int : (Try.prog.info? 3).map (fun i => (i.zero, i.size, i.bytes)) = some (some (.int .i64 0), 1, 8) := by kernel_rfl
namespace Fc
def cellsN (l : List Int) : List Value := l.map (Value.int .i64)
theorem cellsN_get (l : List Int) (k : Nat) : (cellsN l)[k]? = (l[k]?).map (Value.int .i64) := by unfold cellsN; rw [List.getElem?_map]
theorem cellsN_set (l : List Int) (k : Nat) (x : Int) : (cellsN l).set k (.int .i64 x) = cellsN (l.set k x) := by unfold cellsN; rw [List.map_set]
theorem cells_made (n : Nat) : (madeCells (Value.int .i64 0).cells (n * 1)).toList = cellsN (List.replicate n 0) := by
  rw [show (Value.int .i64 0).cells = #[.int .i64 0] from rfl, toList_madeCells_one, Nat.mul_one]
  unfold cellsN
  rw [List.map_replicate]
/-- A row of numbers in block g. -/
def OwnN (g : Nat) (n : Nat) (l : List Int) (w : World) : Prop := l.length = n ∧ w.ownsRow g 3 1 (.slice (some ⟨g, 0, none⟩) n n) n (cellsN l)
theorem OwnN.lt {g n : Nat} {l : List Int} {w : World} (h : OwnN g n l w) : g < w.heap.size := by
  rcases h.2.2 with ⟨h, _⟩ | ⟨g2, _, _, h, _, hg, _⟩
  · cases h
  · cases h; exact (Array.getElem?_eq_some_iff.1 hg).1
theorem OwnN.cell {g n : Nat} {l : List Int} {w : World} (h : OwnN g n l w) {k : Nat} {x : Int} (hx : l[k]? = some x) : w.cell? ⟨g, k, none⟩ = some (.int .i64 x) := by
  have hk : k < n := by rw [← h.1]; exact (List.getElem?_eq_some_iff.1 hx).1
  rw [h.2.cellAt k (by omega), cellsN_get, hx]; rfl
theorem OwnN.frozen {g n : Nat} {l : List Int} {w : World} (h : OwnN g n l w) (k : Nat) : w.frozen? ⟨g, k, none⟩ = false := h.2.frozenAt k
theorem OwnN.store {g n : Nat} {l : List Int} {w : World} (h : OwnN g n l w) (k : Nat) (x : Int) : OwnN g n (l.set k x) (w.setCell ⟨g, k, none⟩ (.int .i64 x)) := by
  refine ⟨by rw [List.length_set]; exact h.1, ?_⟩
  have := (h.2.stored k (.int .i64 x)).1
  rw [cellsN_set] at this
  exact this
theorem OwnN.block {g n : Nat} {l : List Int} {w w' : World} (h : OwnN g n l w) (hb : w'.heap[g]? = w.heap[g]?) : OwnN g n l w' := by
  obtain ⟨h0, h1, h2⟩ := h
  refine ⟨h0, h1, ?_⟩
  rcases h2 with hn | ⟨g2, cap, cur, e, hb', hg, rest⟩
  · exact .inl hn
  · refine .inr ⟨g2, cap, cur, e, hb', ?_, rest⟩
    cases e
    exact hb.trans hg
theorem OwnN.isN {g n : Nat} {l : List Int} {w : World} (h : OwnN g n l w) (hn : n ≤ 9223372036854775807) (hb : ∀ x ∈ l, -9223372036854775808 ≤ x ∧ x ≤ 9223372036854775807) : IsN w (.slice (some ⟨g, 0, none⟩) n n) l := by
  refine ⟨_, n, by rw [h.1], by rw [h.1]; exact Nat.le_refl _, hn, hb, fun _ => ⟨g, 0, rfl, h.lt, fun i hi => ?_⟩⟩
  rw [Nat.zero_add, List.getD_eq_getElem?_getD, List.getElem?_eq_getElem hi]
  exact h.cell (List.getElem?_eq_getElem hi)
end Fc
end Go.Proofs.Ytjcaingfeaaakaa
