import Derived.Test.YthhfcijgcpnfcaaDoorKRIs
import Derived.WalkKit
import Derived.WalkSpells
import Derived.WalkLawsBesides
import Derived.Lib.Hide
/-
  The walk of the reference's Chain.
-/
namespace Go.Proofs.YthhfcijgcpnfcaaDoor
open Go.RowKit

theorem Dg.chain_small (s : ByteArray) (hs : s.size ≤ 1000000) (k : Nat) : (str (Dg.chain s.data.toList k)).size ≤ 1000000 := by
  cases k with
  | zero => rw [Dg.chain, Dg.str_data]; exact hs
  | succ k => rw [Dg.chain, Dg.str_size, Dg.sum_length]; omega

set_option maxHeartbeats 1000000 in
set_option maxRecDepth 100000 in
theorem refchain_walk (s : ByteArray) (hs : s.size ≤ 1000000) (n : Int) (hn : n ≤ 1000) (w : World) :
    Calls Tryd.prog 37 #[.string s, .int .i64 n] w fun e w' => e = .returned (.string (str (Dg.chain s.data.toList (min n 1000).toNat))) ∧ w = w' := by
  obtain ⟨m, hm⟩ : ∃ m, m = min n 1000 := ⟨_, rfl⟩
  rw [← hm]
  have hm1 : m = n := by omega
  have HM := Lib.hid hm1
  clear hm hm1
  go_enter Tryd.func37, Tryd.ntmps37
  go_wp2
  go_loop [0, 5] (fun x i => ∃ k : Nat, (k ≤ m.toNat) ∧ i = .int .i64 k ∧ x = .string (str (Dg.chain s.data.toList k))) (fun _ i => 1000 - (intOf i).toNat)
  case atStart => exact ⟨0, Nat.zero_le _, rfl, by rw [Dg.chain, Dg.str_data]⟩
  case round =>
    obtain ⟨k, hk, rfl, rfl⟩ := hrel
    have hmn := HM.out
    by_cases hlt : (k : Int) < n
    · have hck := Dg.chain_small s hs k
      have hk1 : k + 1 ≤ m.toNat := by omega
      have hk2 : (k : Int) < 1000 := by omega
      clear hmn
      go_wp2_with fail
      refine (refsum_walk _ hck _).mono ?_
      rintro e w1 ⟨rfl, rfl⟩
      go_wp2_with fail
      go_round
      case rel => exact ⟨k + 1, hk1, by go_num, by rw [Dg.str_toList]; rfl⟩
      case measure => simp [intOf]; omega
    · have hkm : Hid (k = m.toNat) := by show _ = _; omega
      clear hmn
      go_wp2
      go_ret
      exact ⟨Dg.ret_str (by rw [hkm.out]), rfl⟩

end Go.Proofs.YthhfcijgcpnfcaaDoor
