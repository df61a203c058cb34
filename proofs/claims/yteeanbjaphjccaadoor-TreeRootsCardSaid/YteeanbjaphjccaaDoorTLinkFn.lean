/-
  The walk of tree.Link.
-/
import Derived.Test.YteeanbjaphjccaaDoorTLinkC
import Derived.Test.YteeanbjaphjccaaDoorTPathFn
namespace Go.Proofs.YteeanbjaphjccaaDoor
open Go.RowKit

set_option maxHeartbeats 1000000 in
set_option maxRecDepth 100000 in
theorem link_low (v : Value) (ss : List ByteArray) (i : Int) (w : World) (hv : IsTx w v ss) (hi : i < 0) :
    Calls Tryd.prog 13 #[v, .int .i64 i] w (TextsOut [] 1 w) := by
  obtain ⟨a, cap, rfl, h1, h2, _⟩ := hv
  go_enter Tryd.func13, Tryd.ntmps13
  go_wp2_with fail
  go_ret2
  exact ⟨_, [], rfl, IsTx.nil _, rfl, by simp, Below.refl _ _⟩

set_option maxHeartbeats 1000000 in
set_option maxRecDepth 100000 in
theorem link_high (v : Value) (ss : List ByteArray) (i : Int) (w : World) (hv : IsTx w v ss) (h0 : ¬ i < 0) (hi : (ss.length : Int) < i) :
    Calls Tryd.prog 13 #[v, .int .i64 i] w (TextsOut [] 1 w) := by
  obtain ⟨a, cap, rfl, h1, h2, _⟩ := hv
  go_enter Tryd.func13, Tryd.ntmps13
  go_wp2_with fail
  go_ret2
  exact ⟨_, [], rfl, IsTx.nil _, rfl, by simp, Below.refl _ _⟩

theorem Tr.llen_63 (n m : Nat) (whole : Bool) (h : n ≤ 4611686018427387904) : Tr.llen n m whole ≤ 63 := Tr.llen_le 62 n m whole h

set_option maxHeartbeats 1000000 in
set_option maxRecDepth 100000 in
theorem link_zero (v : Value) (ss : List ByteArray) (w : World) (hv : IsTx w v ss) :
    Calls Tryd.prog 13 #[v, .int .i64 0] w (TextsOut [] 0 w) := by
  obtain ⟨a, cap, rfl, h1, h2, _⟩ := hv
  go_enter Tryd.func13, Tryd.ntmps13
  go_wp2_with fail
  go_ret2
  exact ⟨_, [], rfl, IsTx.nil _, rfl, by simp, Below.refl _ _⟩

set_option maxHeartbeats 1000000 in
set_option maxRecDepth 100000 in
theorem link_ok (v : Value) (ss : List ByteArray) (m : Nat) (w : World) (hv : IsTx w v ss) (hs : ∀ s ∈ ss, s.size ≤ 200) (hl : ss.length ≤ 4611686018427387904) (h0 : 0 < m) (hm : m ≤ ss.length) (ht : HasTab w) :
    Calls Tryd.prog 13 #[v, .int .i64 m] w (TextsOut (Tr.link (Tr.bs ss) m true) 0 w) := by
  have hp : PSt w.heap.size w (Tr.linkFn w.heap.size) [] (.slice none 0 0) ((w.alloc (.cells #[.slice none 0 0] 22)).alloc (.cells #[Tr.linkFn w.heap.size] 43)) := by
    refine ⟨((Below.refl _ _).alloc (Nat.le_refl _) _).alloc (by simp) _, ?_, ?_, World.ownsRow_nil _ _ _ _⟩
    · exact cell_new2 _ _ _ _
    · rw [Below.heap_alloc _ _ _ (by simp)]; exact heap_alloc_new _ _
  have HC := Lib.hid (linkc_walk w ht ss.length ss v m true [] _ _ h0 hm (Nat.le_refl _) hl hv hs (by have := Tr.llen_63 ss.length m true hl; simp; omega) hp)
  obtain ⟨a, cap, rfl, h1, h2, _⟩ := hv
  have n0 : ((m : Int) == 0) = false := by simp; omega
  clear hp ht hs
  go_enter Tryd.func13, Tryd.ntmps13
  go_wp2_with fail
  refine HC.out.mono ?_
  rintro e w1 ⟨rfl, nv, ps, hq, hps, hz⟩
  have hcq := cell_of_one hq.var
  have HQ := Lib.hid hq
  clear hq
  go_wp2_with fail
  go_ret2
  exact ⟨nv, ps, rfl, own_tx HQ.out.own, hps, hz, HQ.out.old⟩
end Go.Proofs.YteeanbjaphjccaaDoor
