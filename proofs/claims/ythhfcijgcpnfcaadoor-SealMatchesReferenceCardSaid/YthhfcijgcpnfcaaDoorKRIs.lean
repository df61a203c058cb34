import Derived.Test.YthhfcijgcpnfcaaDoorKRSum
import Derived.WalkKit
import Derived.WalkSpells
import Derived.WalkLawsBesides
import Derived.Lib.Hide
/-
  The walks of the reference's Digit and Is.
-/
namespace Go.Proofs.YthhfcijgcpnfcaaDoor
open Go.RowKit

def Nonneg (w : World) (e : Ending) (w' : World) : Prop := ∃ z : Int, 0 ≤ z ∧ e = .returned (.int .i64 z) ∧ w = w'

set_option maxHeartbeats 1000000 in
set_option maxRecDepth 100000 in
theorem digit_yes (b : UInt8) (h : Dg.isHex b = true) (w : World) : Calls Tryd.prog 66 #[.int .u8 b.toNat] w (Nonneg w) := by
  rcases (Dg.isHex_eq b).1 h with ⟨h1, h2⟩ | ⟨h1, h2⟩
  · have g1 : (48 : Int) ≤ b.toNat := by omega
    have g2 : (b.toNat : Int) ≤ 57 := by omega
    clear h h1 h2
    go_enter Tryd.func66, Tryd.ntmps66
    go_wp2
    go_ret
    exact ⟨_, by omega, rfl, rfl⟩
  · have g1 : (97 : Int) ≤ b.toNat := by omega
    have g2 : (b.toNat : Int) ≤ 102 := by omega
    clear h h1 h2
    go_enter Tryd.func66, Tryd.ntmps66
    go_wp2
    go_ret
    exact ⟨_, by omega, rfl, rfl⟩

set_option maxHeartbeats 1000000 in
set_option maxRecDepth 100000 in
theorem digit_no (b : UInt8) (h : Dg.isHex b = false) (w : World) : Calls Tryd.prog 66 #[.int .u8 b.toNat] w fun e w' => e = .returned (.int .i64 (-1)) ∧ w = w' := by
  have hb : ¬ ((48 ≤ b.toNat ∧ b.toNat ≤ 57) ∨ (97 ≤ b.toNat ∧ b.toNat ≤ 102)) := by rw [← Dg.isHex_eq, h]; decide
  have hc : (b.toNat : Int) < 48 ∨ ((57 : Int) < b.toNat ∧ (b.toNat : Int) < 97) ∨ (102 : Int) < b.toNat := by omega
  clear h hb
  rcases hc with g | ⟨g1, g2⟩ | g
  · go_enter Tryd.func66, Tryd.ntmps66
    go_wp2
    go_ret
    exact ⟨rfl, rfl⟩
  · go_enter Tryd.func66, Tryd.ntmps66
    go_wp2
    go_ret
    exact ⟨rfl, rfl⟩
  · go_enter Tryd.func66, Tryd.ntmps66
    go_wp2
    go_ret
    exact ⟨rfl, rfl⟩

/-- What the reference's Is answers. -/
theorem Dg.refIs_no (s : ByteArray) (k : Nat) (hk : k < s.size) (h : Dg.isHex s[k] = false) : Dg.isDigest s.data.toList = false := Dg.isDigest_no s k hk h

set_option maxHeartbeats 1000000 in
set_option maxRecDepth 100000 in
theorem refis_walk (s : ByteArray) (_hs : s.size ≤ 9223372036854775807) (w : World) :
    Calls Tryd.prog 42 #[.string s] w fun e w' => e = .returned (.bool (Dg.isDigest s.data.toList)) ∧ w = w' := by
  go_enter Tryd.func42, Tryd.ntmps42
  go_wp2_with fail
  go_loop [3] (fun i => ∃ k : Nat, k ≤ s.size ∧ k ≤ 16 ∧ i = .int .i64 k ∧ Dg.hexTo s k) (fun i => s.size - (intOf i).toNat)
  case atStart => exact ⟨0, Nat.zero_le _, Nat.zero_le _, rfl, rfl⟩
  case round =>
    obtain ⟨k, hk, hk16, rfl, hto⟩ := hrel
    by_cases hlt : k < s.size
    · by_cases h16 : k < 16
      · cases hb : Dg.isHex s[k] with
        | true =>
          have HB := Lib.hid hb
          clear hb
          go_wp2_with (go_at_call 66; refine (digit_yes _ HB.out _).mono ?_; rintro e w1 ⟨z, hz, rfl, rfl⟩)
          go_round
          case rel => exact ⟨k + 1, by omega, by omega, by go_num, Dg.hexTo_succ s k hlt hto HB.out⟩
          case measure => simp [intOf]; omega
        | false =>
          have HB := Lib.hid hb
          clear hb
          go_wp2_with (go_at_call 66; refine (digit_no _ HB.out _).mono ?_; rintro e w1 ⟨rfl, rfl⟩)
          go_ret
          exact ⟨Dg.ret_bool (Dg.isDigest_no s k hlt HB.out).symm, rfl⟩
      · have hne : ((s.size : Int) == 16) = false := by simp; omega
        have hnn : s.size ≠ 16 := by omega
        have HN := Lib.hid hnn
        clear hnn
        go_wp2_with fail
        go_ret
        exact ⟨Dg.ret_bool (Dg.isDigest_len s HN.out).symm, rfl⟩
    · have hke : Hid (k = s.size) := by show _ = _; omega
      by_cases he : s.size = 16
      · have HE := Lib.hid he
        have hne : ((s.size : Int) == 16) = true := by simp; omega
        clear he
        go_wp2_with fail
        go_ret
        exact ⟨Dg.ret_bool (Dg.isDigest_yes s HE.out (hke.out ▸ hto)).symm, rfl⟩
      · have HE := Lib.hid he
        have hne : ((s.size : Int) == 16) = false := by simp; omega
        clear he
        go_wp2_with fail
        go_ret
        exact ⟨Dg.ret_bool (Dg.isDigest_len s HE.out).symm, rfl⟩
end Go.Proofs.YthhfcijgcpnfcaaDoor
