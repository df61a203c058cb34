import Derived.Test.YthhfcijgcpnfcaaDoorKDIs
import Derived.WalkKit
import Derived.WalkSpells
import Derived.WalkLawsBesides
import Derived.Lib.Hide
/-
  The walk of digest.Chain.
-/
namespace Go.Proofs.YthhfcijgcpnfcaaDoor
open Go.RowKit

set_option maxHeartbeats 1000000 in
set_option maxRecDepth 100000 in
theorem chain_walk (s : ByteArray) (hs : s.size ≤ 9223372036854775807) (n : Int) (w : World) :
    Calls Tryd.prog 33 #[.string s, .int .i64 n] w fun e w' => e = .returned (.string (str (Dg.chain s.data.toList (min n 1000).toNat))) ∧ Below w.heap.size w w' := by
  obtain ⟨m, hm⟩ : ∃ m, m = min n 1000 := ⟨_, rfl⟩
  rw [← hm]
  have hm1 : m ≤ 1000 := by omega
  have HM := Lib.hid hm
  clear hm
  go_enter Tryd.func33, Tryd.ntmps33
  go_wp2
  all_goals
    go_loopw [0, 7] (fun x i wr => ∃ k : Nat, (k ≤ m.toNat) ∧ i = .int .i64 k ∧ x = .string (str (Dg.chain s.data.toList k)) ∧ Below w.heap.size w wr) (fun _ i _ => 1000 - (intOf i).toNat)
    case atStart => exact ⟨0, Nat.zero_le _, rfl, by rw [Dg.chain, Dg.str_data], Below.refl _ _⟩
    case round =>
      obtain ⟨k, hk, rfl, rfl, hbw⟩ := hrel
      have hmn := HM.out
      by_cases hlt : (k : Int) < m
      · have hck := Dg.chain_size s hs k
        have hk1 : (k : Int) < n := by omega
        have hk2 : (k : Int) < 1000 := by omega
        clear hmn
        go_wp2_with fail
        refine (sum_walk _ hck _).mono ?_
        rintro e w1 ⟨rfl, hb1⟩
        go_wp2_with fail
        go_roundw
        case rel => exact ⟨k + 1, by omega, by go_num, by rw [Dg.str_toList]; rfl, hbw.trans (hb1.mono hbw.size)⟩
        case measure => simp [intOf]; omega
      · have hkm : Hid (k = m.toNat) := by show _ = _; omega
        first
          | (have hx : ¬ ((k : Int) < 1000) := by omega
             clear hmn
             go_wp2)
          | (have hx : ¬ ((k : Int) < n) := by omega
             clear hmn
             go_wp2)
        go_ret
        exact ⟨Dg.ret_str (by rw [hkm.out]), hbw⟩

theorem chain_ex (s : ByteArray) (hs : s.size ≤ 9223372036854775807) (n : Int) (w : World) :
    Calls Tryd.prog 33 #[.string s, .int .i64 n] w fun e w' => ∃ r : ByteArray, e = .returned (.string r) ∧ Hid (r.data.toList = Dg.chain s.data.toList (min n 1000).toNat) ∧ r.size ≤ 9223372036854775807 ∧ Below w.heap.size w w' :=
  (chain_walk s hs n w).mono fun _ _ ⟨h, hb⟩ => ⟨_, h, rfl, Dg.chain_size s hs _, hb⟩
end Go.Proofs.YthhfcijgcpnfcaaDoor
