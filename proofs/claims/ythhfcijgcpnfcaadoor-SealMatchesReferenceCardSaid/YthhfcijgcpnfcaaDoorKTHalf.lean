import Derived.Test.YthhfcijgcpnfcaaDoorKDEx
import Derived.Test.YthhfcijgcpnfcaaDoorKTBind
import Derived.WalkKit
import Derived.WalkSpells
import Derived.WalkLawsBesides
import Derived.Lib.Hide
/-
  The walks of tree.firstPart and of the reference's Half: the greatest power of two below a number.
-/
namespace Go.Proofs.YthhfcijgcpnfcaaDoor
open Go.RowKit

theorem Tr.half_at {n k j : Nat} (hk : k < n) (hj : Hid (k = 2 ^ j)) (h : n ≤ k * 2) : k = Tr.half n := by
  have := hj.out
  subst this
  exact (Tr.half_eq hk (by rw [Nat.pow_succ]; exact h)).symm
theorem Tr.half_next {k j : Nat} (hj : Hid (k = 2 ^ j)) : Hid (k * 2 = 2 ^ (j + 1)) := by
  show _ = _
  rw [hj.out, Nat.pow_succ]

set_option maxHeartbeats 1000000 in
set_option maxRecDepth 100000 in
theorem firstpart_walk (n : Nat) (h2 : 2 ≤ n) (hn : n ≤ 4611686018427387904) (w : World) :
    Calls Tryd.prog 54 #[.int .i64 n] w fun e w' => e = .returned (.int .i64 (Tr.half n : Nat)) ∧ w = w' := by
  go_enter Tryd.func54, Tryd.ntmps54
  go_wp2_with fail
  go_loop [3] (fun i => ∃ j k : Nat, k < n ∧ 0 < k ∧ i = .int .i64 k ∧ Hid (k = 2 ^ j)) (fun i => n - (intOf i).toNat)
  case atStart => exact ⟨0, 1, by omega, by omega, rfl, rfl⟩
  case round =>
    obtain ⟨j, k, hk, h0, rfl, hj⟩ := hrel
    by_cases hlt : ((k : Int) * 2) < n
    · go_wp2_with fail
      go_round
      case rel => exact ⟨j + 1, k * 2, by omega, by omega, by go_num, Tr.half_next hj⟩
      case measure => simp [intOf]; omega
    · have hle : n ≤ k * 2 := by omega
      have HL := Lib.hid hle
      clear hle
      go_wp2_with fail
      go_ret
      exact ⟨by rw [Tr.half_at hk hj HL.out]; rfl, rfl⟩

set_option maxHeartbeats 1000000 in
set_option maxRecDepth 100000 in
theorem half_walk (n : Nat) (h2 : 2 ≤ n) (hn : n ≤ 4611686018427387904) (w : World) :
    Calls Tryd.prog 58 #[.int .i64 n] w fun e w' => e = .returned (.int .i64 (Tr.half n : Nat)) ∧ w = w' := by
  go_enter Tryd.func58, Tryd.ntmps58
  go_wp2_with fail
  go_loop [3] (fun i => ∃ j k : Nat, k < n ∧ 0 < k ∧ i = .int .i64 k ∧ Hid (k = 2 ^ j)) (fun i => n - (intOf i).toNat)
  case atStart => exact ⟨0, 1, by omega, by omega, rfl, rfl⟩
  case round =>
    obtain ⟨j, k, hk, h0, rfl, hj⟩ := hrel
    by_cases hlt : (2 * (k : Int)) < n
    · go_wp2_with fail
      go_round
      case rel => exact ⟨j + 1, k * 2, by omega, by omega, by go_num, Tr.half_next hj⟩
      case measure => simp [intOf]; omega
    · have hle : n ≤ k * 2 := by omega
      have HL := Lib.hid hle
      clear hle
      go_wp2_with fail
      go_ret
      exact ⟨by rw [Tr.half_at hk hj HL.out]; rfl, rfl⟩
end Go.Proofs.YthhfcijgcpnfcaaDoor
