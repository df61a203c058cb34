/-
  The walks of the reference's Chain, Digit and Is.
-/
import Derived.Test.YtddfkffaecgjiaaDoorRSum
import Derived.WalkKit
import Derived.WalkSpells
import Derived.WalkLawsBesides
import Derived.Lib.Hide
namespace Go.Proofs.YtddfkffaecgjiaaDoor
open Go.RowKit

theorem Dg.chain_small (s : ByteArray) (hs : s.size ≤ 1000000) (k : Nat) : (str (Dg.chain s.data.toList k)).size ≤ 1000000 := by
  cases k with
  | zero => rw [Dg.chain, Dg.str_data]; exact hs
  | succ k => rw [Dg.chain, Dg.str_size, Dg.sum_length]; omega

set_option maxHeartbeats 1000000 in
set_option maxRecDepth 100000 in
theorem refchain_walk (s : ByteArray) (hs : s.size ≤ 1000000) (n : Int) (hn : n ≤ 1000) (w : World) :
    Calls Tryd.prog 17 #[.string s, .int .i64 n] w fun e w' => e = .returned (.string (str (Dg.chain s.data.toList (min n 1000).toNat))) ∧ w = w' := by
  obtain ⟨m, hm⟩ : ∃ m, m = min n 1000 := ⟨_, rfl⟩
  rw [← hm]
  have hm1 : m = n := by omega
  have HM := Lib.hid hm1
  clear hm hm1
  go_enter Tryd.func17, Tryd.ntmps17
  go_wp2
  go_loop [0, 5] (fun x i => ∃ k : Nat, (k ≤ m.toNat) ∧ i = .int .i64 k ∧ x = .string (str (Dg.chain s.data.toList k))) (fun _ i => 1000 - (intOf i).toNat)
  case atStart => exact ⟨0, Nat.zero_le _, rfl, by rw [Dg.chain, Dg.str_data]⟩
  case round =>
    obtain ⟨k, hk, rfl, rfl⟩ := hrel
    have hmn := HM.out
    by_cases hlt : (k : Int) < n
    · have hck := Dg.chain_small s hs k
      have hk1 : k + 1 ≤ m.toNat := by omega
      have hk2 : (k : Int) < 1000 := by omega
      clear hmn
      go_wp2_with fail
      refine (refsum_walk _ hck _).mono ?_
      rintro e w1 ⟨rfl, rfl⟩
      go_wp2_with fail
      go_round
      case rel => exact ⟨k + 1, hk1, by go_num, by rw [Dg.str_toList]; rfl⟩
      case measure => simp [intOf]; omega
    · have hkm : Hid (k = m.toNat) := by show _ = _; omega
      clear hmn
      go_wp2
      go_ret
      exact ⟨Dg.ret_str (by rw [hkm.out]), rfl⟩

def Nonneg (w : World) (e : Ending) (w' : World) : Prop := ∃ z : Int, 0 ≤ z ∧ e = .returned (.int .i64 z) ∧ w = w'

set_option maxHeartbeats 1000000 in
set_option maxRecDepth 100000 in
theorem digit_yes (b : UInt8) (h : Dg.isHex b = true) (w : World) : Calls Tryd.prog 29 #[.int .u8 b.toNat] w (Nonneg w) := by
  rcases (Dg.isHex_eq b).1 h with ⟨h1, h2⟩ | ⟨h1, h2⟩
  · have g1 : (48 : Int) ≤ b.toNat := by omega
    have g2 : (b.toNat : Int) ≤ 57 := by omega
    clear h h1 h2
    go_enter Tryd.func29, Tryd.ntmps29
    go_wp2
    go_ret
    exact ⟨_, by omega, rfl, rfl⟩
  · have g1 : (97 : Int) ≤ b.toNat := by omega
    have g2 : (b.toNat : Int) ≤ 102 := by omega
    clear h h1 h2
    go_enter Tryd.func29, Tryd.ntmps29
    go_wp2
    go_ret
    exact ⟨_, by omega, rfl, rfl⟩

set_option maxHeartbeats 1000000 in
set_option maxRecDepth 100000 in
theorem digit_no (b : UInt8) (h : Dg.isHex b = false) (w : World) : Calls Tryd.prog 29 #[.int .u8 b.toNat] w fun e w' => e = .returned (.int .i64 (-1)) ∧ w = w' := by
  have hb : ¬ ((48 ≤ b.toNat ∧ b.toNat ≤ 57) ∨ (97 ≤ b.toNat ∧ b.toNat ≤ 102)) := by rw [← Dg.isHex_eq, h]; decide
  have hc : (b.toNat : Int) < 48 ∨ ((57 : Int) < b.toNat ∧ (b.toNat : Int) < 97) ∨ (102 : Int) < b.toNat := by omega
  clear h hb
  rcases hc with g | ⟨g1, g2⟩ | g
  · go_enter Tryd.func29, Tryd.ntmps29
    go_wp2
    go_ret
    exact ⟨rfl, rfl⟩
  · go_enter Tryd.func29, Tryd.ntmps29
    go_wp2
    go_ret
    exact ⟨rfl, rfl⟩
  · go_enter Tryd.func29, Tryd.ntmps29
    go_wp2
    go_ret
    exact ⟨rfl, rfl⟩

/-- What the reference's Is answers. -/
theorem Dg.refIs_no (s : ByteArray) (k : Nat) (hk : k < s.size) (h : Dg.isHex s[k] = false) : Dg.isDigest s.data.toList = false := Dg.isDigest_no s k hk h

set_option maxHeartbeats 1000000 in
set_option maxRecDepth 100000 in
theorem refis_walk (s : ByteArray) (_hs : s.size ≤ 9223372036854775807) (w : World) :
    Calls Tryd.prog 19 #[.string s] w fun e w' => e = .returned (.bool (Dg.isDigest s.data.toList)) ∧ w = w' := by
  go_enter Tryd.func19, Tryd.ntmps19
  go_wp2_with fail
  go_loop [3] (fun i => ∃ k : Nat, k ≤ s.size ∧ k ≤ 16 ∧ i = .int .i64 k ∧ Dg.hexTo s k) (fun i => s.size - (intOf i).toNat)
  case atStart => exact ⟨0, Nat.zero_le _, Nat.zero_le _, rfl, rfl⟩
  case round =>
    obtain ⟨k, hk, hk16, rfl, hto⟩ := hrel
    by_cases hlt : k < s.size
    · by_cases h16 : k < 16
      · cases hb : Dg.isHex s[k] with
        | true =>
          have HB := Lib.hid hb
          clear hb
          go_wp2_with (go_at_call 29; refine (digit_yes _ HB.out _).mono ?_; rintro e w1 ⟨z, hz, rfl, rfl⟩)
          go_round
          case rel => exact ⟨k + 1, by omega, by omega, by go_num, Dg.hexTo_succ s k hlt hto HB.out⟩
          case measure => simp [intOf]; omega
        | false =>
          have HB := Lib.hid hb
          clear hb
          go_wp2_with (go_at_call 29; refine (digit_no _ HB.out _).mono ?_; rintro e w1 ⟨rfl, rfl⟩)
          go_ret
          exact ⟨Dg.ret_bool (Dg.isDigest_no s k hlt HB.out).symm, rfl⟩
      · have hne : ((s.size : Int) == 16) = false := by simp; omega
        have hnn : s.size ≠ 16 := by omega
        have HN := Lib.hid hnn
        clear hnn
        go_wp2_with fail
        go_ret
        exact ⟨Dg.ret_bool (Dg.isDigest_len s HN.out).symm, rfl⟩
    · have hke : Hid (k = s.size) := by show _ = _; omega
      by_cases he : s.size = 16
      · have HE := Lib.hid he
        have hne : ((s.size : Int) == 16) = true := by simp; omega
        clear he
        go_wp2_with fail
        go_ret
        exact ⟨Dg.ret_bool (Dg.isDigest_yes s HE.out (hke.out ▸ hto)).symm, rfl⟩
      · have HE := Lib.hid he
        have hne : ((s.size : Int) == 16) = false := by simp; omega
        clear he
        go_wp2_with fail
        go_ret
        exact ⟨Dg.ret_bool (Dg.isDigest_len s HE.out).symm, rfl⟩
end Go.Proofs.YtddfkffaecgjiaaDoor
