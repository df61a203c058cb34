/-
  The walks of digest.mix and of the reference's mix: both compute the plain function Dg.mix on numbers below 2^64.
-/
import Derived.Test.YteeanbjaphjccaaDoorProg
import Derived.Test.YteeanbjaphjccaaDoorDBits
import Derived.WalkKit
import Derived.WalkSpells
import Derived.WalkLawsBesides
namespace Go.Proofs.YteeanbjaphjccaaDoor
open Go.RowKit

set_option maxHeartbeats 400000 in
theorem mix_walk (x : Nat) (w : World) :
    Calls Tryd.prog 62 #[.int .u64 x] w fun e w' => e = .returned (.int .u64 (Dg.mix x)) ∧ w = w' := by
  go_enter Tryd.func62, Tryd.ntmps62
  go_wp2
  go_ret
  exact ⟨Dg.ret_int (Dg.mixI x), rfl⟩

set_option maxHeartbeats 400000 in
theorem refmix_walk (x : Nat) (w : World) :
    Calls Tryd.prog 59 #[.int .u64 x] w fun e w' => e = .returned (.int .u64 (Dg.mix x)) ∧ w = w' := by
  go_enter Tryd.func59, Tryd.ntmps59
  go_wp2
  go_ret
  exact ⟨Dg.ret_int (Dg.mixI x), rfl⟩
end Go.Proofs.YteeanbjaphjccaaDoor
