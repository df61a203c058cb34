/-
  The walks of digest.mix and of the reference's mix: both compute the plain function Dg.mix on numbers below 2^64.
-/
import Derived.Test.YtklfkhhefjjpaaaDoorProg
import Derived.Test.YtklfkhhefjjpaaaDoorDBits
import Derived.WalkKit
import Derived.WalkSpells
import Derived.WalkLawsBesides
namespace Go.Proofs.YtklfkhhefjjpaaaDoor
open Go.RowKit

set_option maxHeartbeats 400000 in
theorem mix_walk (x : Nat) (w : World) :
    Calls Tryd.prog 78 #[.int .u64 x] w fun e w' => e = .returned (.int .u64 (Dg.mix x)) ∧ w = w' := by
  go_enter Tryd.func78, Tryd.ntmps78
  go_wp2
  go_ret
  exact ⟨Dg.ret_int (Dg.mixI x), rfl⟩

set_option maxHeartbeats 400000 in
theorem refmix_walk (x : Nat) (w : World) :
    Calls Tryd.prog 50 #[.int .u64 x] w fun e w' => e = .returned (.int .u64 (Dg.mix x)) ∧ w = w' := by
  go_enter Tryd.func50, Tryd.ntmps50
  go_wp2
  go_ret
  exact ⟨Dg.ret_int (Dg.mixI x), rfl⟩
end Go.Proofs.YtklfkhhefjjpaaaDoor
