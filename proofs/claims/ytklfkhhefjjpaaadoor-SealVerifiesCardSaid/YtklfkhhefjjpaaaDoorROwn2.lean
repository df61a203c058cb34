/-
  Joined texts, and lists that are put together.
-/
import Derived.Test.YtklfkhhefjjpaaaDoorROwn
import Derived.Test.YtklfkhhefjjpaaaDoorTApp
import Derived.Test.YtklfkhhefjjpaaaDoorTBind
namespace Go.Proofs.YtklfkhhefjjpaaaDoor
open Go.RowKit

/-- The joined text of a short list, of at most ten thousand bytes. -/
theorem refjoined_tx (v : Value) (ss : List ByteArray) (w : World) (hv : IsTx w v ss) (hs : ∀ s ∈ ss, s.size ≤ 200) (hl : ss.length ≤ 30) :
    Calls Tryd.prog 46 #[v] w fun e w' => ∃ r : ByteArray, e = .returned (.string r) ∧ Hid (r.data.toList = Dg.join (Tr.bs ss)) ∧ r.size ≤ 10000 ∧ Below w.heap.size w w' :=
  refjoined_any v ss w hv.texts (Tr.few_of hs hl)

theorem own_mono {w : World} {base base' : Nat} {e : TypeId} {size : Nat} {v : Value} {n : Nat} {xs : List Value} (h : w.ownsRow base e size v n xs) (hb : base' ≤ base) : w.ownsRow base' e size v n xs := by
  refine ⟨h.1, ?_⟩
  rcases h.2 with hn | ⟨g, cap, cur, rfl, h1, rest⟩
  · exact .inl hn
  · exact .inr ⟨g, cap, cur, rfl, Nat.le_trans hb h1, rest⟩
theorem Tr.bs_app {a b : List ByteArray} {p q : List Tr.T} (ha : Hid (Tr.bs a = p)) (hb : Hid (Tr.bs b = q)) : Hid (Tr.bs (a ++ b) = p ++ q) := by
  show _ = _
  rw [← ha.out, ← hb.out]; simp
theorem Tr.small_app {a b : List ByteArray} {n : Nat} (ha : ∀ s ∈ a, s.size ≤ n) (hb : ∀ s ∈ b, s.size ≤ n) : ∀ s ∈ a ++ b, s.size ≤ n := fun s hs => by
  rcases List.mem_append.1 hs with h | h
  · exact ha s h
  · exact hb s h
theorem own_app {w : World} {base : Nat} {v : Value} {a b : List ByteArray} (h : w.ownsRow base 9 1 v (a.length + b.length) (Tr.cells a ++ Tr.cells b)) : w.ownsRow base 9 1 v (a ++ b).length (Tr.cells (a ++ b)) := by
  rw [List.length_append, Tr.cells, List.map_append]; exact h
theorem heap_alloc_size (w : World) (o : Obj) : (w.alloc o).heap.size = w.heap.size + 1 := by simp
end Go.Proofs.YtklfkhhefjjpaaaDoor
