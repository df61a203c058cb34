import Derived.Test.YthhfcijgcpnfcaaDoorKRTree
import Derived.Test.YthhfcijgcpnfcaaDoorKTState
import Derived.Test.YthhfcijgcpnfcaaDoorKTApp
import Derived.Test.YthhfcijgcpnfcaaDoorKTBind
/-
  Slices of texts that a call hands back as its caller's own.
-/
namespace Go.Proofs.YthhfcijgcpnfcaaDoor
open Go.RowKit

/-- What a function answers that hands back a slice of its own making: the texts p, each of at most S bytes. -/
def OwnOut (S : Nat) (p : List Tr.T) (w : World) (e : Ending) (w' : World) : Prop :=
  ∃ (v : Value) (ps : List ByteArray), e = .returned v ∧ w'.ownsRow w.heap.size 9 1 v ps.length (Tr.cells ps) ∧ Hid (Tr.bs ps = p) ∧ (∀ s ∈ ps, s.size ≤ S) ∧ Below w.heap.size w w'
theorem OwnOut.drew {S : Nat} {p : List Tr.T} {w : World} {e : Ending} {w' : World} (h : OwnOut S p w.drew e w') : OwnOut S p w e w' := by
  obtain ⟨v, ps, h1, h2, h3, h4, h5⟩ := h
  exact ⟨v, ps, h1, h2, h3, h4, (Below.refl w.heap.size w).drew.trans h5⟩
theorem Tr.Old.of {w w' : World} (h : Below w.heap.size w w') : Tr.Old w w' := h
theorem Tr.Old.grown {w w1 w2 : World} {base : Nat} {e : TypeId} {size n : Nat} {v : Value} {xs : List Value} {w3 : World} (h : Tr.Old w w1) (hg : w1.grownBy w2 v.ownBlock) (ho : w3.ownsRow base e size v n xs) (hb : w.heap.size ≤ base) : Tr.Old w w2 :=
  Below.grown h.out hg h.out.size (fun k hk => Nat.le_trans hb (ho.lt k hk).1)
theorem own_at {w w' : World} {base : Nat} {e : TypeId} {size : Nat} {v : Value} {n : Nat} {xs : List Value} (hb : Below w.heap.size w w') (h : w.ownsRow base e size v n xs) : w'.ownsRow base e size v n xs := own_below h hb
/-- A slice of one text, just built. -/
theorem own_built (w : World) (base : Nat) (hb : base ≤ w.heap.size) (x : ByteArray) : (w.alloc (.cells #[.string x] 9)).ownsRow base 9 1 (.slice (some ⟨w.heap.size, 0, none⟩) 1 1) [x].length (Tr.cells [x]) :=
  ⟨by simp, .inr ⟨w.heap.size, 1, #[.string x], rfl, hb, heap_alloc_new _ _, Nat.le_refl _, by unfold maxLen; omega, rfl, rfl⟩⟩
end Go.Proofs.YthhfcijgcpnfcaaDoor
/-
  Joined texts, and lists that are put together.
-/
namespace Go.Proofs.YthhfcijgcpnfcaaDoor
open Go.RowKit

/-- The joined text of a short list, of at most ten thousand bytes. -/
theorem refjoined_tx (v : Value) (ss : List ByteArray) (w : World) (hv : IsTx w v ss) (hs : ∀ s ∈ ss, s.size ≤ 200) (hl : ss.length ≤ 30) :
    Calls Tryd.prog 46 #[v] w fun e w' => ∃ r : ByteArray, e = .returned (.string r) ∧ Hid (r.data.toList = Dg.join (Tr.bs ss)) ∧ r.size ≤ 10000 ∧ Below w.heap.size w w' :=
  refjoined_any v ss w hv.texts (Tr.few_of hs hl)

theorem own_mono {w : World} {base base' : Nat} {e : TypeId} {size : Nat} {v : Value} {n : Nat} {xs : List Value} (h : w.ownsRow base e size v n xs) (hb : base' ≤ base) : w.ownsRow base' e size v n xs := by
  refine ⟨h.1, ?_⟩
  rcases h.2 with hn | ⟨g, cap, cur, rfl, h1, rest⟩
  · exact .inl hn
  · exact .inr ⟨g, cap, cur, rfl, Nat.le_trans hb h1, rest⟩
theorem Tr.bs_app {a b : List ByteArray} {p q : List Tr.T} (ha : Hid (Tr.bs a = p)) (hb : Hid (Tr.bs b = q)) : Hid (Tr.bs (a ++ b) = p ++ q) := by
  show _ = _
  rw [← ha.out, ← hb.out]; simp
theorem Tr.small_app {a b : List ByteArray} {n : Nat} (ha : ∀ s ∈ a, s.size ≤ n) (hb : ∀ s ∈ b, s.size ≤ n) : ∀ s ∈ a ++ b, s.size ≤ n := fun s hs => by
  rcases List.mem_append.1 hs with h | h
  · exact ha s h
  · exact hb s h
theorem own_app {w : World} {base : Nat} {v : Value} {a b : List ByteArray} (h : w.ownsRow base 9 1 v (a.length + b.length) (Tr.cells a ++ Tr.cells b)) : w.ownsRow base 9 1 v (a ++ b).length (Tr.cells (a ++ b)) := by
  rw [List.length_append, Tr.cells, List.map_append]; exact h
theorem heap_alloc_size (w : World) (o : Obj) : (w.alloc o).heap.size = w.heap.size + 1 := by simp
end Go.Proofs.YthhfcijgcpnfcaaDoor
