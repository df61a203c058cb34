/-
  The walks of the reference's digits and Decimal: the decimal numeral of a number from 0 to 1000000.
-/
import Derived.Test.YtklfkhhefjjpaaaDoorRIs
import Derived.Test.YtklfkhhefjjpaaaDoorDFew
import Derived.WalkKit
import Derived.WalkSpells
import Derived.WalkLawsBesides
import Derived.Lib.Hide
namespace Go.Proofs.YtklfkhhefjjpaaaDoor
open Go.RowKit
open Go.Lib (decDigits)
namespace Dg
/-- What is left to write: v's digits stand before acc, nothing where v is 0. -/
def left (v : Nat) (acc : List UInt8) : List UInt8 := if v = 0 then acc else decDigits v ++ acc
theorem left_start (n : Nat) : left (n / 10) [UInt8.ofNat (48 + n % 10)] = decDigits n := by
  unfold left
  by_cases h : n < 10
  · rw [if_pos (by omega), dec_small h, Nat.mod_eq_of_lt h]
  · rw [if_neg (by omega), dec_big h]
theorem left_step (v : Nat) (acc : List UInt8) (h : 0 < v)  : left (v / 10) (UInt8.ofNat (48 + v % 10) :: acc) = left v acc := by
  unfold left
  rw [if_neg (show ¬ v = 0 by omega)]
  by_cases h1 : v < 10
  · rw [if_pos (by omega), dec_small h1, Nat.mod_eq_of_lt h1]; rfl
  · rw [if_neg (by omega), dec_big h1]; simp
theorem ten_text (d : Nat) (h : d < 10) : ((⟨#[48, 49, 50, 51, 52, 53, 54, 55, 56, 57]⟩ : ByteArray).extract d (d + 1)).data.toList = [UInt8.ofNat (48 + d)] := by
  have : ∀ d : Fin 10, ((⟨#[48, 49, 50, 51, 52, 53, 54, 55, 56, 57]⟩ : ByteArray).extract d.1 (d.1 + 1)).data.toList = [UInt8.ofNat (48 + d.1)] := by decide +kernel
  exact this ⟨d, h⟩
theorem ten_size (d : Nat) (h : d < 10) : ((⟨#[48, 49, 50, 51, 52, 53, 54, 55, 56, 57]⟩ : ByteArray).extract d (d + 1)).size = 1 := by
  rw [Lib.size_eq, ten_text d h]; rfl
theorem left_init (n : Nat) : Hid (left (n / 10) ((⟨#[48, 49, 50, 51, 52, 53, 54, 55, 56, 57]⟩ : ByteArray).extract (n % 10) (n % 10 + 1)).data.toList = decDigits n) := by
  show _ = _
  rw [ten_text _ (by omega), left_start]
theorem left_next (v n : Nat) (r : ByteArray) (h : 0 < v) (hr : left v r.data.toList = decDigits n) :
    Hid (left (v / 10) ((⟨#[48, 49, 50, 51, 52, 53, 54, 55, 56, 57]⟩ : ByteArray).extract (v % 10) (v % 10 + 1) ++ r).data.toList = decDigits n) := by
  show _ = _
  rw [ByteArray.data_append, Array.toList_append, ten_text _ (by omega), List.singleton_append, left_step v _ h, hr]
theorem left_end (v n : Nat) (r : ByteArray) (h : v = 0) (hr : left v r.data.toList = decDigits n) : r = str (decDigits n) := by
  unfold left at hr
  rw [if_pos h] at hr
  rw [← hr, str_data]
end Dg

set_option maxHeartbeats 1000000 in
set_option maxRecDepth 100000 in
theorem digits_walk (n : Nat) (hn : n ≤ 1000000) (w : World) :
    Calls Tryd.prog 75 #[.int .u64 n] w fun e w' => e = .returned (.string (str (decDigits n))) ∧ w = w' := by
  go_enter Tryd.func75, Tryd.ntmps75
  go_wp2_with fail
  go_loop [0, 3] (fun x t => ∃ (v : Nat) (r : ByteArray), v ≤ 1000000 ∧ x = .int .u64 v ∧ t = .string r ∧ r.size + v ≤ n + 1 ∧ Hid (Dg.left v r.data.toList = decDigits n)) (fun x _ => (intOf x).toNat)
  case atStart =>
    exact ⟨n / 10, _, by omega, rfl, rfl, by have := Dg.ten_size (n % 10) (by omega); omega, Dg.left_init n⟩
  case round =>
    obtain ⟨v, r, hv, rfl, rfl, hsz, hr⟩ := hrel
    by_cases h0 : 0 < v
    · have h1 : (0 : Int) < v := by omega
      go_wp2_with fail
      go_round
      case rel => exact ⟨v / 10, _, by omega, rfl, rfl, by rw [ByteArray.size_append]; have := Dg.ten_size (v % 10) (by omega); omega, Dg.left_next v n r h0 hr.out⟩
      case measure => simp [intOf]; omega
    · have h1 : ¬ (0 : Int) < v := by omega
      have hv0 : Hid (v = 0) := by show _ = _; omega
      go_wp2_with fail
      go_ret
      exact ⟨Dg.ret_str (Dg.left_end v n r hv0.out hr.out), rfl⟩

set_option maxHeartbeats 1000000 in
set_option maxRecDepth 100000 in
theorem decimal_walk (n : Nat) (hn : n ≤ 1000000) (w : World) :
    Calls Tryd.prog 47 #[.int .i64 n] w fun e w' => e = .returned (.string (str (decDigits n))) ∧ w = w' := by
  have h0 : ¬ ((n : Int) < 0) := by omega
  go_enter Tryd.func47, Tryd.ntmps47
  go_wp2_with fail
  have e := Dg.wrap_small n (by unfold Dg.M; omega)
  try rw [e]
  refine (digits_walk n hn w).mono ?_
  rintro e w' ⟨rfl, rfl⟩
  go_wp2_with fail
  go_ret
  exact ⟨rfl, rfl⟩
end Go.Proofs.YtklfkhhefjjpaaaDoor
