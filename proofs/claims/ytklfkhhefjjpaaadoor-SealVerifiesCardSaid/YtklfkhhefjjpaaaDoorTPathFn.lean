/-
  The walk of tree.Path.
-/
import Derived.Test.YtklfkhhefjjpaaaDoorTPath
namespace Go.Proofs.YtklfkhhefjjpaaaDoor
open Go.RowKit

/-- A slice of texts that are those of a list of digests, and a number beside it. -/
def TextsOut (p : List Tr.T) (err : Int) (w : World) (e : Ending) (w' : World) : Prop :=
  ∃ (v : Value) (ps : List ByteArray), e = .returned (.tuple #[v, .int .i64 err]) ∧ IsTx w' v ps ∧ Hid (Tr.bs ps = p) ∧ (∀ s ∈ ps, s.size ≤ 16) ∧ Below w.heap.size w w'

set_option maxHeartbeats 1000000 in
set_option maxRecDepth 100000 in
theorem path_low (v : Value) (ss : List ByteArray) (i : Int) (w : World) (hv : IsTx w v ss) (hi : i < 0) :
    Calls Tryd.prog 31 #[v, .int .i64 i] w (TextsOut [] 1 w) := by
  obtain ⟨a, cap, rfl, h1, h2, _⟩ := hv
  go_enter Tryd.func31, Tryd.ntmps31
  go_wp2_with fail
  go_ret2
  exact ⟨_, [], rfl, IsTx.nil _, rfl, by simp, Below.refl _ _⟩

set_option maxHeartbeats 1000000 in
set_option maxRecDepth 100000 in
theorem path_high (v : Value) (ss : List ByteArray) (i : Int) (w : World) (hv : IsTx w v ss) (h0 : ¬ i < 0) (hi : (ss.length : Int) ≤ i) :
    Calls Tryd.prog 31 #[v, .int .i64 i] w (TextsOut [] 1 w) := by
  obtain ⟨a, cap, rfl, h1, h2, _⟩ := hv
  go_enter Tryd.func31, Tryd.ntmps31
  go_wp2_with fail
  go_ret2
  exact ⟨_, [], rfl, IsTx.nil _, rfl, by simp, Below.refl _ _⟩

theorem Tr.plen_62 (n i : Nat) (h : n ≤ 4611686018427387904) : Tr.plen n i ≤ 62 := Tr.plen_le 62 n i h

set_option maxHeartbeats 1000000 in
set_option maxRecDepth 100000 in
theorem path_ok (v : Value) (ss : List ByteArray) (i : Nat) (w : World) (hv : IsTx w v ss) (hs : ∀ s ∈ ss, s.size ≤ 200) (hl : ss.length ≤ 4611686018427387904) (hi : i < ss.length) (ht : HasTab w) :
    Calls Tryd.prog 31 #[v, .int .i64 i] w (TextsOut (Tr.path (Tr.bs ss) i) 0 w) := by
  have hp : PSt w.heap.size w (Tr.pathFn w.heap.size) [] (.slice none 0 0) ((w.alloc (.cells #[.slice none 0 0] 22)).alloc (.cells #[Tr.pathFn w.heap.size] 72)) := by
    refine ⟨((Below.refl _ _).alloc (Nat.le_refl _) _).alloc (by simp) _, ?_, ?_, World.ownsRow_nil _ _ _ _⟩
    · exact cell_new2 _ _ _ _
    · rw [Below.heap_alloc _ _ _ (by simp)]; exact heap_alloc_new _ _
  have HC := Lib.hid (pathc_walk w ht ss.length ss v i [] _ _ (by omega) (Nat.le_refl _) hl hi hv hs (by have := Tr.plen_62 ss.length i hl; simp; omega) hp)
  obtain ⟨a, cap, rfl, h1, h2, _⟩ := hv
  clear hp ht hs
  go_enter Tryd.func31, Tryd.ntmps31
  go_wp2_with fail
  refine HC.out.mono ?_
  rintro e w1 ⟨rfl, nv, ps, hq, hps, hz⟩
  have hcq := cell_of_one hq.var
  have HQ := Lib.hid hq
  clear hq
  go_wp2_with fail
  go_ret2
  exact ⟨nv, ps, rfl, own_tx HQ.out.own, hps, hz, HQ.out.old⟩
end Go.Proofs.YtklfkhhefjjpaaaDoor
