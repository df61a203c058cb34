/-
  Further moves of a walk through a region that draws its order: an operation that is wanted or not, a row that is built, one of two operations that may come up.
-/
import Derived.Test.YtjcaingfeaaakaaFHeld
import Derived.Below
namespace Go.Proofs.Ytjcaingfeaaakaa
open Go.RowKit

section
variable {P : Program} {ops : Array Oper} {Q : Exit → Act → World → Prop} {md : Region.Mode} {S : World → Prop} {fuel : Nat} {listed : Array Bool} {a : Act} {w : World}

/-- An operation that yields v, or isn't wanted. -/
theorem held_maybe (i : Nat) (d : Tmp) (v : Value) {oi : Oper} (hi : ops[i]? = some oi) (hd : oi.dst = some d)
    (hs : Region.noSelect ops = true) (hf : Region.free md ops listed i = true) (hr : (Region.ready md ops listed).contains i = true)
    (hQ : ∀ c a w, Q (.panic c) (a.put oi.dst v) w → Q (.panic c) a w) (hy : (Region.wanted oi (yielded ops a.tmps) = true ∧ ∀ w, S w → (execOp a.eval oi).run P w = .ok (.value v) w) ∨ (Region.wanted oi (yielded ops a.tmps) = false ∧ v = undef)) (hS : S w)
    (h : wpAnyH P md ops Q S fuel (listed.setIfInBounds i true) (a.put (some d) v) w) : wpAnyH P md ops Q S (fuel + 1) listed a w :=
  wpAnyH_take hi hs hf hr hQ hy hS (hd ▸ h)

/-- What follows an operation that comes up. -/
def HStep (P : Program) (md : Region.Mode) (ops : Array Oper) (Q : Exit → Act → World → Prop) (S : World → Prop) (fuel : Nat) (listed : Array Bool) (a : Act) (w : World) (i : Nat) : Prop :=
  wpOp P ops Q i (fun a' w' => S w' ∧ wpAnyH P md ops Q S fuel (listed.setIfInBounds i true) a' w') a w
/-- One alone may come up. -/
theorem held_one (i : Nat) (hr : Region.ready md ops listed = [i]) (h : HStep P md ops Q S fuel listed a w i) : wpAnyH P md ops Q S (fuel + 1) listed a w :=
  wpAnyH_all hr (by simp) fun j hj => by
    obtain rfl : j = i := by simpa using hj
    exact h
/-- One of two may come up. -/
theorem held_two (i j : Nat) (hr : Region.ready md ops listed = [i, j]) (h1 : HStep P md ops Q S fuel listed a w i) (h2 : HStep P md ops Q S fuel listed a w j) : wpAnyH P md ops Q S (fuel + 1) listed a w :=
  wpAnyH_all hr (by simp) fun k hk => by
    have hk' : k = i ∨ k = j := by simpa using hk
    rcases hk' with rfl | rfl
    · exact h1
    · exact h2
/-- A row is built. -/
theorem hstep_row (i : Nat) (d : Tmp) (n : Nat) (cs : Array Value) (ty : TypeId) {oi : Oper} (hi : ops[i]? = some oi) (hd : oi.dst = some d)
    (hw : Region.wanted oi (yielded ops a.tmps) = true) (hex : (execOp a.eval oi).run P w = .ok (.value (.slice (some ⟨w.heap.size, 0, none⟩) n n)) (w.alloc (.cells cs ty))) (hS : ∀ w', Below w.heap.size w w' → S w')
    (h : ∀ w' b, S w' → Below w.heap.size w w' → w'.heap[b]? = some (.cells cs ty (0, 0)) → wpAnyH P md ops Q S fuel (listed.setIfInBounds i true) (a.put (some d) (.slice (some ⟨b, 0, none⟩) n n)) w') : HStep P md ops Q S fuel listed a w i := by
  unfold HStep wpOp
  rw [hi]
  dsimp only
  rw [if_pos hw]
  left
  unfold Oper.wp
  rw [hex]
  have hb : Below w.heap.size w (w.alloc (.cells cs ty)) := (Below.refl _ _).alloc (Nat.le_refl _) _
  have h2 := h _ _ (hS _ hb) hb (heap_alloc_new w (.cells cs ty))
  rw [← hd] at h2
  exact ⟨hS _ hb, h2⟩
/-- A call. -/
theorem hstep_call (i : Nat) (d : Tmp) (f : FuncId) (args : Array Value) {oi : Oper} (hi : ops[i]? = some oi) (hd : oi.dst = some d)
    (hw : Region.wanted oi (yielded ops a.tmps) = true) (hex : (execOp a.eval oi).run P w = .ok (.enter f args) w)
    (h : Calls P f args w fun e w' => ∃ v, e = .returned v ∧ S w' ∧ (S w' → wpAnyH P md ops Q S fuel (listed.setIfInBounds i true) (a.put (some d) v) w')) : HStep P md ops Q S fuel listed a w i := by
  unfold HStep wpOp
  rw [hi]
  dsimp only
  rw [if_pos hw]
  left
  unfold Oper.wp
  rw [hex]
  refine Calls.mono h fun e w' he => ?_
  obtain ⟨v, rfl, hS, hc⟩ := he
  rw [← hd] at hc
  exact ⟨hS, hc hS⟩
end
end Go.Proofs.Ytjcaingfeaaakaa
