import Derived.Test.YthhfcijgcpnfcaaDoorKDEx
import Derived.WalkKit
import Derived.WalkSpells
import Derived.WalkLawsBesides
import Derived.Lib.Hide
/-
  The walk of the reference's Sum: it too computes Dg.sum (texts of at most 1000000 bytes).
-/
namespace Go.Proofs.YthhfcijgcpnfcaaDoor
open Go.RowKit

namespace Dg
theorem numb_in (s : ByteArray) (p j : Nat) (hj : j < 8) (h : p + j < s.size) :
    IntKind.u64.wrap (IntKind.u64.wrap ((num s.data.toList p j : Nat) * 256) + IntKind.u64.wrap ((s[p + j].toNat : Nat) : Int)) = ((num s.data.toList p (j + 1) : Nat) : Int) := by
  have hb := s[p + j].toNat_lt
  have hn' : num s.data.toList p (j + 1) < M := Nat.lt_of_lt_of_le (num_lt s.data.toList p (j + 1)) (Nat.le_trans (Nat.pow_le_pow_right (by decide) (show j + 1 ≤ 8 from hj)) (by decide))
  have hg : s.data.toList.getD (p + j) 0 = s[p + j] := by
    rw [List.getD_eq_getElem?_getD, List.getElem?_eq_getElem (by rw [len_data]; exact h), ← data_get s (p + j) h]; rfl
  have e : num s.data.toList p (j + 1) = num s.data.toList p j * 256 + s[p + j].toNat := by rw [num, hg]
  rw [e] at hn' ⊢
  have h1 := shl8 (num s.data.toList p j) (Nat.lt_of_le_of_lt (Nat.le_add_right _ _) hn')
  rw [h1, wrap_small _ (Nat.lt_of_le_of_lt (Nat.le_add_left _ _) hn'), ← Int.natCast_add, wrap_small _ hn']
theorem numb_out (s : ByteArray) (p j : Nat) (hj : j < 8) (h : ¬ p + j < s.size) :
    IntKind.u64.wrap ((num s.data.toList p j : Nat) * 256) = ((num s.data.toList p (j + 1) : Nat) : Int) := by
  have hn' : num s.data.toList p (j + 1) < M := Nat.lt_of_lt_of_le (num_lt s.data.toList p (j + 1)) (Nat.le_trans (Nat.pow_le_pow_right (by decide) (show j + 1 ≤ 8 from hj)) (by decide))
  have hg : s.data.toList.getD (p + j) 0 = 0 := by
    rw [List.getD_eq_getElem?_getD, List.getElem?_eq_none (by rw [len_data]; omega)]; rfl
  have e : num s.data.toList p (j + 1) = num s.data.toList p j * 256 := by rw [num, hg, show (0 : UInt8).toNat = 0 from rfl, Nat.add_zero]
  rw [e] at hn' ⊢
  exact shl8 _ hn'
theorem hexN_cons (n : Nat) : ∀ x, hexN x (n + 1) = dig (x / 16 ^ n % 16) :: hexN x n := by
  induction n with
  | zero => intro x; simp [hexN]
  | succ n ih =>
    intro x
    rw [hexN, ih (x / 16), hexN, Nat.div_div_eq_div_mul, List.cons_append]
    congr 4
    rw [Nat.mul_comm, ← Nat.pow_succ]
theorem div_step (x m y : Nat) (hx : x < M) (hy : y = x / 16 ^ m) : IntKind.u64.wrap ((y : Int) / 16) = ((x / 16 ^ (m + 1) : Nat) : Int) := by
  have e : x / 16 ^ (m + 1) = y / 16 := by rw [hy, Nat.div_div_eq_div_mul, Nat.pow_succ]
  have hl : x / 16 ^ (m + 1) < M := Nat.lt_of_le_of_lt (Nat.div_le_self _ _) hx
  rw [show ((y : Int) / 16) = ((y / 16 : Nat) : Int) from rfl, ← e]
  exact wrap_small _ hl
theorem dig_text (d : Nat) (h : d < 16) : ((⟨#[48, 49, 50, 51, 52, 53, 54, 55, 56, 57, 97, 98, 99, 100, 101, 102]⟩ : ByteArray).extract d (d + 1)).data.toList = [dig d] := by
  have : ∀ d : Fin 16, ((⟨#[48, 49, 50, 51, 52, 53, 54, 55, 56, 57, 97, 98, 99, 100, 101, 102]⟩ : ByteArray).extract d.1 (d.1 + 1)).data.toList = [dig d.1] := by decide +kernel
  exact this ⟨d, h⟩
theorem dig_step (x m y : Nat) (t : ByteArray) (hy : y = x / 16 ^ m) (ht : t = str (hexN x m)) :
    Value.string ((⟨#[48, 49, 50, 51, 52, 53, 54, 55, 56, 57, 97, 98, 99, 100, 101, 102]⟩ : ByteArray).extract (y % 16) (y % 16 + 1) ++ t) = Value.string (str (hexN x (m + 1))) := by
  congr 1
  apply str_ext
  rw [ByteArray.data_append, Array.toList_append, dig_text _ (by omega), ht, hexN_cons, hy]
  simp
end Dg

set_option maxHeartbeats 1000000 in
set_option maxRecDepth 100000 in
theorem refsum_walk (s : ByteArray) (hs : s.size ≤ 1000000) (w : World) :
    Calls Tryd.prog 25 #[.string s] w fun e w' => e = .returned (.string (str (Dg.sum s.data.toList))) ∧ w = w' := by
  go_enter Tryd.func25, Tryd.ntmps25
  go_wp2_with fail
  go_loop [3, 4] (fun x f => ∃ k : Nat, k ≤ s.size / 8 + 1 ∧ f = .int .i64 (8 * (k : Int)) ∧ x = .int .u64 (Dg.state s.data.toList k : Nat)) (fun _ f => s.size + 8 - (intOf f).toNat)
  case atStart => exact ⟨0, Nat.zero_le _, rfl, Dg.val_int (Dg.start_state s (by omega))⟩
  case round =>
    obtain ⟨k, hk, rfl, rfl⟩ := hrel
    by_cases hlt : k < s.size / 8 + 1
    · have h1 : 8 * (k : Int) ≤ s.size := by omega
      go_wp2_with fail
      go_loop [5, 6] (fun b i => ∃ j : Nat, j ≤ 8 ∧ i = .int .i64 (8 * (k : Int) + j) ∧ b = .int .u64 (Dg.num s.data.toList (8 * k) j : Nat)) (fun _ i => 8 * k + 8 - (intOf i).toNat)
      case atStart => exact ⟨0, Nat.zero_le _, by simp, rfl⟩
      case round =>
        obtain ⟨j, hj, rfl, rfl⟩ := hrel
        by_cases hj8 : j < 8
        · by_cases hin : 8 * k + j < s.size
          · have h2 : 8 * (k : Int) + j < s.size := by omega
            go_wp2_with fail
            go_round
            case rel => exact ⟨j + 1, by omega, by go_num, Dg.val_int (Dg.numb_in s (8 * k) j hj8 hin)⟩
            case measure => simp [intOf]; omega
          · have h2 : ¬ 8 * (k : Int) + j < s.size := by omega
            go_wp2_with fail
            go_round
            case rel => exact ⟨j + 1, by omega, by go_num, Dg.val_int (Dg.numb_out s (8 * k) j hj8 hin)⟩
            case measure => simp [intOf]; omega
        · obtain rfl : j = 8 := by omega
          go_wp2_with fail
          rw [Dg.xor_nat _ _ (Dg.state_lt _ (Dg.len_lt s (by omega)) k) (Dg.num_lt8 _ _)]
          refine (refmix_walk _ _).mono ?_
          rintro e w3 ⟨rfl, rfl⟩
          go_wp2_with fail
          go_round
          case rel => exact ⟨k + 1, by omega, by go_num, Dg.val_int rfl⟩
          case measure => simp [intOf]; omega
    · have h1 : ¬ 8 * (k : Int) ≤ s.size := by omega
      obtain rfl : k = s.size / 8 + 1 := by omega
      obtain ⟨x, hx⟩ : ∃ x, x = Dg.state s.data.toList (s.size / 8 + 1) := ⟨_, rfl⟩
      have hxm : x < Dg.M := by rw [hx]; exact Dg.state_lt _ (Dg.len_lt s (by omega)) _
      have HXM := Lib.hid hxm
      rw [← hx]
      have HX := Lib.hid hx
      clear hx hxm
      go_wp2_with fail
      go_loop [3, 7, 8] (fun y t i => ∃ m : Nat, m ≤ 16 ∧ i = .int .i64 m ∧ y = .int .u64 (x / 16 ^ m : Nat) ∧ t = .string (str (Dg.hexN x m))) (fun _ _ i => 16 - (intOf i).toNat)
      case atStart => exact ⟨0, Nat.zero_le _, rfl, by simp, rfl⟩
      case round =>
        obtain ⟨m, hm, rfl, rfl, rfl⟩ := hrel
        obtain ⟨y, hy⟩ : ∃ y, y = x / 16 ^ m := ⟨_, rfl⟩
        obtain ⟨t, ht⟩ : ∃ t, t = str (Dg.hexN x m) := ⟨_, rfl⟩
        rw [← hy, ← ht]
        have hts : t.size ≤ 16 := by rw [ht, Dg.str_size, Dg.hexN_length]; exact hm
        have HY := Lib.hid hy
        have HT := Lib.hid ht
        clear hy ht
        by_cases hm16 : m < 16
        · go_wp2_with fail
          go_round
          case rel => exact ⟨m + 1, by omega, by go_num, Dg.val_int (Dg.div_step x m y HXM.out HY.out), Dg.dig_step x m y t HY.out HT.out⟩
          case measure => simp [intOf]; omega
        · obtain rfl : m = 16 := by omega
          go_wp2_with fail
          go_ret
          exact ⟨Dg.ret_str (by rw [HT.out, HX.out]; rfl), rfl⟩
end Go.Proofs.YthhfcijgcpnfcaaDoor
