import Derived.Test.YthhfcijgcpnfcaaDoorProg
import Derived.Test.YthhfcijgcpnfcaaDoorKDBlk
import Derived.Test.YthhfcijgcpnfcaaDoorKDNum
import Derived.WalkKit
import Derived.WalkSpells
import Derived.WalkLawsBesides
import Derived.OneCell
import Derived.Lib.Hide
import Derived.Lib.Strings
import Derived.Lib.IndexBytes
/-
  The walk of digest.Sum: the digest of every text is Dg.sum of its bytes.
-/
namespace Go.Proofs.YthhfcijgcpnfcaaDoor
open Go.RowKit
namespace Dg
theorem len_data (s : ByteArray) : s.data.toList.length = s.size := by cases s; rfl
theorem xor_nat (a b : Nat) (ha : a < M) (hb : b < M) : bits .xor .u64 (a : Int) (b : Int) = ((a ^^^ b : Nat) : Int) := bits_xor_u64_nat a b ha hb
theorem start_state (s : ByteArray) (hs : s.size ≤ 9223372036854775807) : bits .xor .u64 1442695040888963407 (s.size : Int) = ((state s.data.toList 0 : Nat) : Int) := by
  rw [state, len_data]
  exact xor_nat s0 s.size (by decide) (by unfold M; omega)
theorem len_lt (s : ByteArray) (hs : s.size ≤ 9223372036854775807) : s.data.toList.length < M := by rw [len_data]; unfold M; omega
theorem getD_drop (l : List UInt8) (p i : Nat) : (l.drop p).getD i 0 = l.getD (p + i) 0 := by
  rw [List.getD_eq_getElem?_getD, List.getD_eq_getElem?_getD, List.getElem?_drop]
theorem state_step (s r : ByteArray) (k : Nat) (h : r.data.toList = s.data.toList.drop (8 * k)) :
    ((mix (state s.data.toList k ^^^ num r.data.toList 0 8) : Nat) : Int) = ((state s.data.toList (k + 1) : Nat) : Int) := by
  rw [state, h, num_congr (s.data.toList.drop (8 * k)) s.data.toList 0 (8 * k) 8 (fun i _ => by rw [getD_drop, Nat.zero_add])]
theorem extract_le (r : ByteArray) (n : Nat) : (r.extract n r.size).size ≤ r.size := by
  rw [Lib.size_eq, Lib.extract_to_end, List.length_drop, ← Lib.size_eq]; omega
theorem rest_step (s r : ByteArray) (k : Nat) (h : r.data.toList = s.data.toList.drop (8 * k)) :
    Hid ((r.extract (Nat.min r.size 8) r.size).data.toList = s.data.toList.drop (8 * (k + 1))) := by
  show _ = _
  rw [Lib.extract_to_end]
  rcases Nat.le_total r.size 8 with h8 | h8
  · rw [show r.size.min 8 = r.size from Nat.min_eq_left h8, List.drop_of_length_le (by rw [← Lib.size_eq]; exact Nat.le_refl _)]
    have hl : r.size = s.data.toList.length - 8 * k := by rw [Lib.size_eq, h, List.length_drop]
    rw [List.drop_of_length_le (by omega)]
  · rw [show r.size.min 8 = 8 from Nat.min_eq_right h8, h, List.drop_drop]; congr 1
end Dg

set_option maxHeartbeats 1000000 in
set_option maxRecDepth 100000 in
theorem blocks_walk (s : ByteArray) (w : World) :
    Calls Tryd.prog 77 #[.string s] w fun e w' => e = .returned (.func (.func 86) #[] #[.pointer (some ⟨w.heap.size, 0, none⟩)]) ∧ w.alloc (.cells #[.string s] 9) = w' := by
  go_enter Tryd.func77, Tryd.ntmps77
  go_wp2
  go_ret
  exact ⟨rfl, rfl⟩

theorem number_any (s : ByteArray) (w : World) :
    Calls Tryd.prog 79 #[.agg (Dg.bytes8 s)] w fun e w' => e = .returned (.int .u64 (Dg.num s.data.toList 0 8 : Nat)) ∧ Below w.heap.size w w' := by
  have h := number_walk (s.data.toList.getD 0 0) (s.data.toList.getD 1 0) (s.data.toList.getD 2 0) (s.data.toList.getD 3 0) (s.data.toList.getD 4 0) (s.data.toList.getD 5 0) (s.data.toList.getD 6 0) (s.data.toList.getD 7 0) w
  rw [Dg.num_congr _ s.data.toList 0 0 8 (by
    intro i hi
    match i, hi with
    | 0, _ => rfl
    | 1, _ => rfl
    | 2, _ => rfl
    | 3, _ => rfl
    | 4, _ => rfl
    | 5, _ => rfl
    | 6, _ => rfl
    | 7, _ => rfl)] at h
  exact h

set_option maxHeartbeats 1000000 in
set_option maxRecDepth 100000 in
theorem sum_walk (s : ByteArray) (hs : s.size ≤ 9223372036854775807) (w : World) :
    Calls Tryd.prog 63 #[.string s] w fun e w' => e = .returned (.string (str (Dg.sum s.data.toList))) ∧ Below w.heap.size w w' := by
  go_enter Tryd.func63, Tryd.ntmps63
  go_wp2_with (go_at_call 77; refine (blocks_walk _ _).mono ?_; rintro e w' ⟨rfl, rfl⟩)
  go_loopw [3, 15] (fun x i wr => ∃ (k : Nat) (r : ByteArray), k ≤ s.size / 8 + 1 ∧ i = .int .i64 k ∧ x = .int .u64 (Dg.state s.data.toList k : Nat) ∧ wr.heap[w.heap.size]? = some (.cells #[.string r] 9 (0, 0)) ∧ r.size ≤ 9223372036854775807 ∧ Hid (r.data.toList = s.data.toList.drop (8 * k)) ∧ Below w.heap.size w wr) (fun _ i _ => s.size / 8 + 1 - (intOf i).toNat)
  case atStart => exact ⟨0, s, Nat.zero_le _, rfl, Dg.val_int (Dg.start_state s hs), heap_alloc_new _ _, hs, by unfold Hid; simp, (Below.refl _ _).alloc (Nat.le_refl _) _⟩
  case round =>
    obtain ⟨k, r, hk, rfl, rfl, hr, hrs, hrd, hbw⟩ := hrel
    by_cases hlt : k < s.size / 8 + 1
    · go_wp2_with fail
      refine (next_walk w.heap.size r hrs _ hr).mono ?_
      rintro e w1 ⟨rfl, hr1, hb1⟩
      have HR := Lib.hid hr
      have HR1 := Lib.hid hr1
      clear hr hr1
      go_wp2_with fail
      refine (number_any r _).mono ?_
      rintro e w2 ⟨rfl, hb2⟩
      go_wp2_with fail
      rw [Dg.xor_nat _ _ (Dg.state_lt _ (Dg.len_lt s hs) k) (Dg.num_lt8 _ 0)]
      refine (mix_walk _ _).mono ?_
      rintro e w3 ⟨rfl, rfl⟩
      go_wp2_with fail
      have hsz := lt_of_block HR1.out
      go_roundw
      case rel => exact ⟨k + 1, _, by omega, by go_num, Dg.val_int (Dg.state_step s r k hrd.out), (hb2.block _ hsz).trans HR1.out, Nat.le_trans (Dg.extract_le r _) hrs, Dg.rest_step s r k hrd.out, (hbw.trans hb1).trans (hb2.mono (Nat.le_of_lt hsz))⟩
      case measure => simp [intOf]; omega
    · obtain rfl : k = s.size / 8 + 1 := by omega
      have HS := Lib.hid (Dg.len_data s)
      clear hr
      go_wp2_with fail
      refine (hex_walk _ (Dg.state_lt _ (Dg.len_lt s hs) _) _).mono ?_
      rintro e w1 ⟨rfl, hb1⟩
      go_wp2_with fail
      go_ret
      exact ⟨Dg.ret_str (by unfold Dg.sum Dg.sumN; rw [HS.out]), hbw.trans (hb1.mono hbw.size)⟩
end Go.Proofs.YthhfcijgcpnfcaaDoor
