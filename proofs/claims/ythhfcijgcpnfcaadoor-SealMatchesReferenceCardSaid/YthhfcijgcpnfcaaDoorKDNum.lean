import Derived.Test.YthhfcijgcpnfcaaDoorProg
import Derived.Test.YthhfcijgcpnfcaaDoorKDBits
import Derived.WalkKit
import Derived.WalkSpells
import Derived.WalkLawsBesides
/-
  The walks of digest.mix and of the reference's mix: both compute the plain function Dg.mix on numbers below 2^64.
-/
namespace Go.Proofs.YthhfcijgcpnfcaaDoor
open Go.RowKit

set_option maxHeartbeats 400000 in
theorem mix_walk (x : Nat) (w : World) :
    Calls Tryd.prog 78 #[.int .u64 x] w fun e w' => e = .returned (.int .u64 (Dg.mix x)) ∧ w = w' := by
  go_enter Tryd.func78, Tryd.ntmps78
  go_wp2
  go_ret
  exact ⟨Dg.ret_int (Dg.mixI x), rfl⟩

set_option maxHeartbeats 400000 in
theorem refmix_walk (x : Nat) (w : World) :
    Calls Tryd.prog 50 #[.int .u64 x] w fun e w' => e = .returned (.int .u64 (Dg.mix x)) ∧ w = w' := by
  go_enter Tryd.func50, Tryd.ntmps50
  go_wp2
  go_ret
  exact ⟨Dg.ret_int (Dg.mixI x), rfl⟩
end Go.Proofs.YthhfcijgcpnfcaaDoor
/-
  The walk of digest.number: it computes Dg.num of the eight bytes.
-/
namespace Go.Proofs.YthhfcijgcpnfcaaDoor
open Go.RowKit

/-- The eight bytes of a block as a value. -/
def blk (x0 x1 x2 x3 x4 x5 x6 x7 : UInt8) : Array Value := #[.int .u8 x0.toNat, .int .u8 x1.toNat, .int .u8 x2.toNat, .int .u8 x3.toNat, .int .u8 x4.toNat, .int .u8 x5.toNat, .int .u8 x6.toNat, .int .u8 x7.toNat]

theorem idx8 (x0 x1 x2 x3 x4 x5 x6 x7 : UInt8) : ∀ (k : Nat) (_ : k < 8) (w : World), (Instr.index 89 (.agg #[.int .u8 x0.toNat, .int .u8 x1.toNat, .int .u8 x2.toNat, .int .u8 x3.toNat, .int .u8 x4.toNat, .int .u8 x5.toNat, .int .u8 x6.toNat, .int .u8 x7.toNat]) (.int .i64 k)).run Tryd.prog w = .ok (.int .u8 (([x0, x1, x2, x3, x4, x5, x6, x7].getD k 0).toNat : Nat)) w
  | 0, _, w => show (Instr.index 89 (.agg #[.int .u8 x0.toNat, .int .u8 x1.toNat, .int .u8 x2.toNat, .int .u8 x3.toNat, .int .u8 x4.toNat, .int .u8 x5.toNat, .int .u8 x6.toNat, .int .u8 x7.toNat]) (.int .i64 0)).run Tryd.prog w = .ok (.int .u8 x0.toNat) w by kernel_rfl
  | 1, _, w => show (Instr.index 89 (.agg #[.int .u8 x0.toNat, .int .u8 x1.toNat, .int .u8 x2.toNat, .int .u8 x3.toNat, .int .u8 x4.toNat, .int .u8 x5.toNat, .int .u8 x6.toNat, .int .u8 x7.toNat]) (.int .i64 1)).run Tryd.prog w = .ok (.int .u8 x1.toNat) w by kernel_rfl
  | 2, _, w => show (Instr.index 89 (.agg #[.int .u8 x0.toNat, .int .u8 x1.toNat, .int .u8 x2.toNat, .int .u8 x3.toNat, .int .u8 x4.toNat, .int .u8 x5.toNat, .int .u8 x6.toNat, .int .u8 x7.toNat]) (.int .i64 2)).run Tryd.prog w = .ok (.int .u8 x2.toNat) w by kernel_rfl
  | 3, _, w => show (Instr.index 89 (.agg #[.int .u8 x0.toNat, .int .u8 x1.toNat, .int .u8 x2.toNat, .int .u8 x3.toNat, .int .u8 x4.toNat, .int .u8 x5.toNat, .int .u8 x6.toNat, .int .u8 x7.toNat]) (.int .i64 3)).run Tryd.prog w = .ok (.int .u8 x3.toNat) w by kernel_rfl
  | 4, _, w => show (Instr.index 89 (.agg #[.int .u8 x0.toNat, .int .u8 x1.toNat, .int .u8 x2.toNat, .int .u8 x3.toNat, .int .u8 x4.toNat, .int .u8 x5.toNat, .int .u8 x6.toNat, .int .u8 x7.toNat]) (.int .i64 4)).run Tryd.prog w = .ok (.int .u8 x4.toNat) w by kernel_rfl
  | 5, _, w => show (Instr.index 89 (.agg #[.int .u8 x0.toNat, .int .u8 x1.toNat, .int .u8 x2.toNat, .int .u8 x3.toNat, .int .u8 x4.toNat, .int .u8 x5.toNat, .int .u8 x6.toNat, .int .u8 x7.toNat]) (.int .i64 5)).run Tryd.prog w = .ok (.int .u8 x5.toNat) w by kernel_rfl
  | 6, _, w => show (Instr.index 89 (.agg #[.int .u8 x0.toNat, .int .u8 x1.toNat, .int .u8 x2.toNat, .int .u8 x3.toNat, .int .u8 x4.toNat, .int .u8 x5.toNat, .int .u8 x6.toNat, .int .u8 x7.toNat]) (.int .i64 6)).run Tryd.prog w = .ok (.int .u8 x6.toNat) w by kernel_rfl
  | 7, _, w => show (Instr.index 89 (.agg #[.int .u8 x0.toNat, .int .u8 x1.toNat, .int .u8 x2.toNat, .int .u8 x3.toNat, .int .u8 x4.toNat, .int .u8 x5.toNat, .int .u8 x6.toNat, .int .u8 x7.toNat]) (.int .i64 7)).run Tryd.prog w = .ok (.int .u8 x7.toNat) w by kernel_rfl
  | k + 8, h, _ => absurd h (by omega)

set_option maxHeartbeats 400000 in
set_option maxRecDepth 100000 in
theorem number_walk (x0 x1 x2 x3 x4 x5 x6 x7 : UInt8) (w : World) :
    Calls Tryd.prog 79 #[.agg #[.int .u8 x0.toNat, .int .u8 x1.toNat, .int .u8 x2.toNat, .int .u8 x3.toNat, .int .u8 x4.toNat, .int .u8 x5.toNat, .int .u8 x6.toNat, .int .u8 x7.toNat]] w fun e w' => e = .returned (.int .u64 (Dg.num [x0, x1, x2, x3, x4, x5, x6, x7] 0 8)) ∧ Below w.heap.size w w' := by
  have ix : ∀ (k : Nat) (_ : k < 8) (w : World), (Instr.index 89 (.agg #[.int .u8 x0.toNat, .int .u8 x1.toNat, .int .u8 x2.toNat, .int .u8 x3.toNat, .int .u8 x4.toNat, .int .u8 x5.toNat, .int .u8 x6.toNat, .int .u8 x7.toNat]) (.int .i64 k)).run Tryd.prog w = .ok (.int .u8 (([x0, x1, x2, x3, x4, x5, x6, x7].getD k 0).toNat : Nat)) w := by
    intro k hk w
    exact idx8 x0 x1 x2 x3 x4 x5 x6 x7 k hk w
  go_enter Tryd.func79, Tryd.ntmps79
  go_wp2
  go_loop [3, 7] (fun x i => ∃ k : Nat, k ≤ 8 ∧ i = .int .i64 k ∧ x = .int .u64 (Dg.num [x0, x1, x2, x3, x4, x5, x6, x7] 0 k)) (fun _ i => 8 - (intOf i).toNat)
  case atStart => exact ⟨0, Nat.zero_le _, rfl, rfl⟩
  case round =>
    obtain ⟨k, hk, rfl, rfl⟩ := hrel
    by_cases hlt : k < 8
    · have hi := ix k hlt
      clear ix
      go_wp2
      go_round
      case rel => exact ⟨k + 1, by omega, by go_num, Dg.val_int (Dg.num_step' [x0, x1, x2, x3, x4, x5, x6, x7] k hlt hlt)⟩
      case measure => simp [intOf]; omega
    · clear ix
      go_wp2
      obtain rfl : k = 8 := by omega
      go_ret
      exact ⟨rfl, (Below.refl _ _).alloc (Nat.le_refl _) _⟩
end Go.Proofs.YthhfcijgcpnfcaaDoor
