/-
  Slices of texts that a call hands back as its caller's own.
-/
import Derived.Test.YtklfkhhefjjpaaaDoorRTree
import Derived.Test.YtklfkhhefjjpaaaDoorTState
namespace Go.Proofs.YtklfkhhefjjpaaaDoor
open Go.RowKit

/-- What a function answers that hands back a slice of its own making: the texts p, each of at most S bytes. -/
def OwnOut (S : Nat) (p : List Tr.T) (w : World) (e : Ending) (w' : World) : Prop :=
  ∃ (v : Value) (ps : List ByteArray), e = .returned v ∧ w'.ownsRow w.heap.size 9 1 v ps.length (Tr.cells ps) ∧ Hid (Tr.bs ps = p) ∧ (∀ s ∈ ps, s.size ≤ S) ∧ Below w.heap.size w w'
theorem OwnOut.drew {S : Nat} {p : List Tr.T} {w : World} {e : Ending} {w' : World} (h : OwnOut S p w.drew e w') : OwnOut S p w e w' := by
  obtain ⟨v, ps, h1, h2, h3, h4, h5⟩ := h
  exact ⟨v, ps, h1, h2, h3, h4, (Below.refl w.heap.size w).drew.trans h5⟩
theorem Tr.Old.of {w w' : World} (h : Below w.heap.size w w') : Tr.Old w w' := h
theorem Tr.Old.grown {w w1 w2 : World} {base : Nat} {e : TypeId} {size n : Nat} {v : Value} {xs : List Value} {w3 : World} (h : Tr.Old w w1) (hg : w1.grownBy w2 v.ownBlock) (ho : w3.ownsRow base e size v n xs) (hb : w.heap.size ≤ base) : Tr.Old w w2 :=
  Below.grown h.out hg h.out.size (fun k hk => Nat.le_trans hb (ho.lt k hk).1)
theorem own_at {w w' : World} {base : Nat} {e : TypeId} {size : Nat} {v : Value} {n : Nat} {xs : List Value} (hb : Below w.heap.size w w') (h : w.ownsRow base e size v n xs) : w'.ownsRow base e size v n xs := own_below h hb
/-- A slice of one text, just built. -/
theorem own_built (w : World) (base : Nat) (hb : base ≤ w.heap.size) (x : ByteArray) : (w.alloc (.cells #[.string x] 9)).ownsRow base 9 1 (.slice (some ⟨w.heap.size, 0, none⟩) 1 1) [x].length (Tr.cells [x]) :=
  ⟨by simp, .inr ⟨w.heap.size, 1, #[.string x], rfl, hb, heap_alloc_new _ _, Nat.le_refl _, by unfold maxLen; omega, rfl, rfl⟩⟩
end Go.Proofs.YtklfkhhefjjpaaaDoor
