import Derived.Test.YthhfcijgcpnfcaaDoorProg
import Derived.Test.YthhfcijgcpnfcaaDoorKDSum
import Derived.WalkKit
import Derived.WalkSpells
import Derived.WalkLawsBesides
import Derived.Lib.Hide
/-
  The walks of digest.isHexDigit and digest.Is.
-/
namespace Go.Proofs.YthhfcijgcpnfcaaDoor
open Go.RowKit

namespace Dg
theorem str_data (s : ByteArray) : str s.data.toList = s := str_ext _ _ (by simp)
theorem str_toList (l : List UInt8) : (str l).data.toList = l := by simp
theorem str_size (l : List UInt8) : (str l).size = l.length := by rw [Lib.size_eq, str_toList]
theorem chain_size (s : ByteArray) (hs : s.size ≤ 9223372036854775807) (k : Nat) : (str (chain s.data.toList k)).size ≤ 9223372036854775807 := by
  cases k with
  | zero => rw [chain, str_data]; exact hs
  | succ k => rw [chain, str_size, sum_length]; omega
theorem ret_bool {a b : Bool} (h : a = b) : Ending.returned (.bool a) = .returned (.bool b) := by rw [h]
theorem isHex_eq (b : UInt8) : isHex b = true ↔ (48 ≤ b.toNat ∧ b.toNat ≤ 57) ∨ (97 ≤ b.toNat ∧ b.toNat ≤ 102) := by
  unfold isHex
  simp [UInt8.le_iff_toNat_le]
end Dg

set_option maxHeartbeats 1000000 in
set_option maxRecDepth 100000 in
theorem ishex_walk (b : UInt8) (w : World) :
    Calls Tryd.prog 45 #[.int .u8 b.toNat] w fun e w' => e = .returned (.bool (Dg.isHex b)) ∧ w = w' := by
  go_enter Tryd.func45, Tryd.ntmps45
  go_wp2
  all_goals
    go_ret
    exact ⟨Dg.ret_bool (by rw [Bool.eq_iff_iff, Dg.isHex_eq]; simp; omega), rfl⟩

theorem ishex_yes (b : UInt8) (h : Dg.isHex b = true) (w : World) :
    Calls Tryd.prog 45 #[.int .u8 b.toNat] w fun e w' => e = .returned (.bool true) ∧ w = w' := by
  have := ishex_walk b w; rw [h] at this; exact this
theorem ishex_no (b : UInt8) (h : Dg.isHex b = false) (w : World) :
    Calls Tryd.prog 45 #[.int .u8 b.toNat] w fun e w' => e = .returned (.bool false) ∧ w = w' := by
  have := ishex_walk b w; rw [h] at this; exact this

namespace Dg
/-- The first k bytes of a text are hexadecimal digits. -/
def hexTo (s : ByteArray) (k : Nat) : Prop := (s.data.toList.take k).all isHex = true
theorem data_get (s : ByteArray) (k : Nat) (h : k < s.size) : s.data.toList[k]'(by rw [len_data]; exact h) = s[k] := by
  rw [Array.getElem_toList]; rfl
theorem take_succ (s : ByteArray) (k : Nat) (h : k < s.size) : s.data.toList.take (k + 1) = s.data.toList.take k ++ [s[k]] := by
  rw [List.take_succ_eq_append_getElem (by rw [len_data]; exact h), data_get s k h]
theorem hexTo_succ (s : ByteArray) (k : Nat) (h : k < s.size) (hk : hexTo s k) (hb : isHex s[k] = true) : hexTo s (k + 1) := by
  unfold hexTo at *
  rw [take_succ s k h, List.all_append, hk]; simp [hb]
theorem isDigest_no (s : ByteArray) (k : Nat) (h : k < s.size) (hb : isHex s[k] = false) : isDigest s.data.toList = false := by
  have : s.data.toList.all isHex = false := by
    rw [List.all_eq_false]
    exact ⟨s[k], by rw [← data_get s k h]; exact List.getElem_mem _, by rw [hb]; decide⟩
  unfold isDigest
  rw [this, Bool.and_false]
theorem isDigest_yes (s : ByteArray) (h : s.size = 16) (hk : hexTo s s.size) : isDigest s.data.toList = true := by
  unfold hexTo at hk
  rw [List.take_of_length_le (by rw [len_data]; exact Nat.le_refl _)] at hk
  unfold isDigest
  rw [hk, len_data, h]; rfl
theorem isDigest_len (s : ByteArray) (h : s.size ≠ 16) : isDigest s.data.toList = false := by
  unfold isDigest
  rw [len_data, beq_eq_false_iff_ne.2 h, Bool.false_and]
end Dg

set_option maxHeartbeats 1000000 in
set_option maxRecDepth 100000 in
theorem is_walk (s : ByteArray) (hs : s.size ≤ 9223372036854775807) (w : World) :
    Calls Tryd.prog 20 #[.string s] w fun e w' => e = .returned (.bool (Dg.isDigest s.data.toList)) ∧ w = w' := by
  by_cases h16 : s.size = 16
  · have H := Lib.hid h16
    have hn : ((s.size : Int) != 16) = false := by rw [h16]; rfl
    clear h16
    go_enter Tryd.func20, Tryd.ntmps20
    go_wp2_with fail
    go_loop [9] (fun i => ∃ k : Nat, k ≤ s.size ∧ i = .int .i64 k ∧ Dg.hexTo s k) (fun i => s.size - (intOf i).toNat)
    case atStart => exact ⟨0, Nat.zero_le _, rfl, rfl⟩
    case round =>
      obtain ⟨k, hk, rfl, hto⟩ := hrel
      by_cases hlt : k < s.size
      · cases hb : Dg.isHex s[k] with
        | true =>
          have HB := Lib.hid hb
          clear hb
          go_wp2_with (go_at_call 45; refine (ishex_yes _ HB.out _).mono ?_; rintro e w1 ⟨rfl, rfl⟩)
          go_round
          case rel => exact ⟨k + 1, by omega, by go_num, Dg.hexTo_succ s k hlt hto HB.out⟩
          case measure => simp [intOf]; omega
        | false =>
          have HB := Lib.hid hb
          clear hb
          go_wp2_with (go_at_call 45; refine (ishex_no _ HB.out _).mono ?_; rintro e w1 ⟨rfl, rfl⟩)
          go_ret
          exact ⟨Dg.ret_bool (Dg.isDigest_no s k hlt HB.out).symm, rfl⟩
      · have hke : Hid (k = s.size) := by show _ = _; omega
        go_wp2_with fail
        go_ret
        exact ⟨Dg.ret_bool (Dg.isDigest_yes s H.out (hke.out ▸ hto)).symm, rfl⟩
  · have hn : ((s.size : Int) != 16) = true := by simp; omega
    have H := Lib.hid h16
    clear h16
    go_enter Tryd.func20, Tryd.ntmps20
    go_wp2_with fail
    go_ret
    exact ⟨Dg.ret_bool (Dg.isDigest_len s H.out).symm, rfl⟩
end Go.Proofs.YthhfcijgcpnfcaaDoor
