import Derived.Test.YthhfcijgcpnfcaaDoorKDChain
import Derived.Test.YthhfcijgcpnfcaaDoorKTTx
import Derived.Test.YthhfcijgcpnfcaaDoorKSMade
import Derived.WalkKit
import Derived.WalkSpells
import Derived.WalkLawsBesides
import Derived.Lib.Hide
import Derived.Lib.Bytealg
import Derived.Laws.Externs
/-
  What seal asks of the library and of digest: the value of a hexadecimal digit, chains of short texts, starts.
-/
namespace Go.Proofs.YthhfcijgcpnfcaaDoor
open Go.RowKit

theorem Sl.index_hex (b : UInt8) (h : Dg.isHex b = true) : Lib.indexByte [48, 49, 50, 51, 52, 53, 54, 55, 56, 57, 97, 98, 99, 100, 101, 102] b = ((Sl.hv b : Nat) : Int) := by
  have key : ∀ n : Fin 256, Dg.isHex (UInt8.ofNat n.1) = true → Lib.indexByte [48, 49, 50, 51, 52, 53, 54, 55, 56, 57, 97, 98, 99, 100, 101, 102] (UInt8.ofNat n.1) = ((Sl.hv (UInt8.ofNat n.1) : Nat) : Int) := by decide +kernel
  have := key ⟨b.toNat, b.toNat_lt⟩
  simp only [UInt8.ofNat_toNat] at this
  exact this h

set_option maxHeartbeats 1000000 in
set_option maxRecDepth 100000 in
theorem liteindex_walk (s : ByteArray) (c : Int) (w : World) :
    Calls Tryd.prog 81 #[.string s, .int .u8 c] w fun e w' => e = .returned (.int .i64 (Lib.indexByte s.data.toList c.toNat.toUInt8)) ∧ w' = w := by
  go_enter Tryd.func81, Tryd.ntmps81
  go_wp2
  rw [run_callFunc_extern Tryd.func87 (by kernel_rfl) (by kernel_rfl) (by kernel_rfl) (e := Extern.BytealgIndexByte.indexByte) (by kernel_rfl), Lib.run_indexByteString]
  simp only [Result.andThen]
  rw [Oper.upon_value]
  go_wp2
  go_ret
  exact ⟨rfl, rfl⟩

set_option maxHeartbeats 1000000 in
set_option maxRecDepth 100000 in
theorem indexbyte_walk (b : UInt8) (hb : Dg.isHex b = true) (w : World) :
    Calls Tryd.prog 64 #[.string ⟨#[48, 49, 50, 51, 52, 53, 54, 55, 56, 57, 97, 98, 99, 100, 101, 102]⟩, .int .u8 b.toNat] w fun e w' => ∃ d : Nat, e = .returned (.int .i64 d) ∧ d ≤ 15 ∧ Hid (d = Sl.hv b) ∧ w = w' := by
  have HB := Lib.hid hb
  clear hb
  go_enter Tryd.func64, Tryd.ntmps64
  go_wp2_with fail
  refine (liteindex_walk _ _ w).mono ?_
  rintro e w' ⟨rfl, hw⟩
  subst hw
  have e1 : ((b.toNat : Int).toNat.toUInt8) = b := by simp
  rw [e1, Sl.index_hex b HB.out]
  have hle := Sl.hv_le b HB.out
  obtain ⟨d, hd⟩ : ∃ d, d = Sl.hv b := ⟨_, rfl⟩
  rw [← hd] at hle ⊢
  have HD := Lib.hid hd
  clear hd
  go_wp2_with fail
  go_ret
  exact ⟨d, rfl, hle, HD, rfl⟩

/-- A chain of a text of at most 16 bytes. -/
theorem chain_digs (s : ByteArray) (hs : s.size ≤ 16) (n : Nat) (hn : n ≤ 1000) (w : World) :
    Calls Tryd.prog 33 #[.string s, .int .i64 n] w (Digs (Dg.chain s.data.toList n) w) :=
  (chain_walk s (by omega) n w).mono fun _ _ ⟨h, hb⟩ => by
    rw [show (min (n : Int) 1000).toNat = n by omega] at h
    refine ⟨_, h, Dg.str_toList _, ?_, hb⟩
    cases n with
    | zero => rw [Dg.chain, Dg.str_data]; exact hs
    | succ n => rw [Dg.chain, Dg.str_size, Dg.sum_length]; exact Nat.le_refl _

theorem Sl.dec_size (n : Nat) (h : n < 1000) : (str (Lib.decDigits n)).size ≤ 300 := by
  rw [Dg.str_size, Lib.decDigits_length]
  have := Dg.nDigits_le n h
  omega
theorem Sl.few_three {x y z : ByteArray} (h : x.size ≤ 300) (h2 : y.size ≤ 300) (h3 : z.size ≤ 300) : Dg.few [x, y, z] 300 = true := by
  unfold Dg.few
  rw [Bool.and_eq_true, List.all_eq_true, decide_eq_true_eq]
  exact ⟨fun s hs => by simpa using Tr.all_three h h2 h3 s hs, by simp⟩

set_option maxHeartbeats 1000000 in
set_option maxRecDepth 100000 in
theorem start_walk (s : ByteArray) (hs : s.size ≤ 300) (i k : Nat) (hi : i < 1000) (hk : k < 1000) (w : World) (ht : HasTab w) :
    Calls Tryd.prog 34 #[.string s, .int .i64 i, .int .i64 k] w (Digs (Sl.start s.data.toList i k) w) := by
  have HT := Lib.hid ht
  have HS := Lib.hid hs
  clear ht hs
  go_enter Tryd.func34, Tryd.ntmps34
  go_wp2_with fail
  refine (itoa_walk i (by omega) w HT.out).mono ?_
  rintro e w1 ⟨rfl, hb1⟩
  obtain ⟨a, ha⟩ : ∃ a, a = str (Lib.decDigits i) := ⟨_, rfl⟩
  rw [← ha]
  have HA := Lib.hid ha
  clear ha
  go_wp2_with fail
  refine (itoa_walk k (by omega) w1 (HT.out.below hb1)).mono ?_
  rintro e w2 ⟨rfl, hb2⟩
  obtain ⟨b, hb⟩ : ∃ b, b = str (Lib.decDigits k) := ⟨_, rfl⟩
  rw [← hb]
  have HB := Lib.hid hb
  clear hb
  have hb12 := hb1.trans (hb2.mono hb1.size)
  have H2 := Lib.hid (HT.out.below hb12)
  clear hb1 hb2
  go_wp2_with fail
  have hb3 := hb12.alloc hb12.size (.cells #[.string s, .string a, .string b] 9)
  have hfew : Dg.few [s, a, b] 300 = true := Sl.few_three HS.out (by rw [HA.out]; exact Sl.dec_size i hi) (by rw [HB.out]; exact Sl.dec_size k hk)
  refine (list_ex _ [s, a, b] _ (tx_three w2 s a b).texts (by have := Dg.few_join3 _ hfew; omega) (by simp) (HT.out.below hb3)).mono ?_
  rintro e w4 ⟨r, rfl, hr, _, hb4⟩
  go_wp2_with fail
  go_ret
  have HX : Hid (r.data.toList = Sl.start s.data.toList i k) := by
    show _ = _
    rw [hr.out, Sl.start, Sl.startT, HA.out, HB.out]; simp
  exact ⟨r, rfl, HX, by rw [Lib.size_eq, HX.out, Sl.start, Dg.sum_length]; exact Nat.le_refl _, hb3.trans (hb4.mono hb3.size)⟩
end Go.Proofs.YthhfcijgcpnfcaaDoor
