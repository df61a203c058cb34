import Derived.Test.YthhfcijgcpnfcaaDoorKSKeys
import Derived.Test.YthhfcijgcpnfcaaDoorKTRoot
/-
  The walks of seal.isHeight and seal.Public.
-/
namespace Go.Proofs.YthhfcijgcpnfcaaDoor
open Go.RowKit

set_option maxHeartbeats 1000000 in
set_option maxRecDepth 100000 in
theorem isheight_yes (h : Int) (h0 : 0 ≤ h) (h8 : h ≤ 8) (w : World) :
    Calls Tryd.prog 26 #[.int .i64 h] w fun e w' => e = .returned (.bool true) ∧ w = w' := by
  go_enter Tryd.func26, Tryd.ntmps26
  go_wp2_with fail
  go_ret
  exact ⟨rfl, rfl⟩
set_option maxHeartbeats 1000000 in
set_option maxRecDepth 100000 in
theorem isheight_no (h : Int) (hn : ¬ (0 ≤ h ∧ h ≤ 8)) (w : World) :
    Calls Tryd.prog 26 #[.int .i64 h] w fun e w' => e = .returned (.bool false) ∧ w = w' := by
  by_cases h0 : 0 ≤ h
  · have h8 : 8 < h := by omega
    have h8' : ¬ h ≤ 8 := by omega
    clear hn
    go_enter Tryd.func26, Tryd.ntmps26
    go_wp2_with fail
    go_ret
    exact ⟨rfl, rfl⟩
  · clear hn
    go_enter Tryd.func26, Tryd.ntmps26
    go_wp2_with fail
    go_ret
    exact ⟨rfl, rfl⟩

/-- A text that is a list of bytes, and a number beside it. -/
def PairOut (d : List UInt8) (err : Int) (w : World) (e : Ending) (w' : World) : Prop :=
  ∃ r : ByteArray, e = .returned (.tuple #[.string r, .int .i64 err]) ∧ Hid (r.data.toList = d) ∧ r.size ≤ 16 ∧ Below w.heap.size w w'

set_option maxHeartbeats 1000000 in
set_option maxRecDepth 100000 in
theorem public_no (s : ByteArray) (h : Int) (hn : ¬ (0 ≤ h ∧ h ≤ 8)) (w : World) :
    Calls Tryd.prog 13 #[.string s, .int .i64 h] w (PairOut [] 1 w) := by
  have HN := Lib.hid hn
  clear hn
  go_enter Tryd.func13, Tryd.ntmps13
  go_wp2_with fail
  refine (isheight_no h HN.out w).mono ?_
  rintro e w1 ⟨rfl, rfl⟩
  go_wp2_with fail
  go_ret2
  exact ⟨_, rfl, rfl, by decide, Below.refl _ _⟩

theorem Sl.keys_len8 {ps : List ByteArray} {s : Tr.T} {h : Nat} (h8 : h ≤ 8) (hp : Hid (Tr.bs ps = Sl.keys s h)) : ps.length ≤ 256 := by
  rw [Tr.len_of hp, Sl.keys_length]
  exact Nat.le_trans (Nat.pow_le_pow_right (by decide) h8) (by decide)

set_option maxHeartbeats 1000000 in
set_option maxRecDepth 100000 in
theorem public_ok (s : ByteArray) (hs : s.size ≤ 300) (h : Nat) (h8 : h ≤ 8) (w : World) (ht : HasTab w) :
    Calls Tryd.prog 13 #[.string s, .int .i64 h] w (PairOut (Sl.pub s.data.toList h) 0 w) := by
  have HT := Lib.hid ht
  have HS := Lib.hid hs
  clear ht hs
  go_enter Tryd.func13, Tryd.ntmps13
  go_wp2_with fail
  refine (isheight_yes h (by omega) (by omega) w).mono ?_
  rintro e w1 ⟨rfl, rfl⟩
  go_wp2_with fail
  refine (keys_walk s HS.out h h8 w HT.out).mono ?_
  rintro e w1 ⟨v, ps, rfl, hv, hps, hz, hb1⟩
  have HV := Lib.hid hv
  have HZ := Lib.hid hz
  clear hv hz
  go_wp2_with fail
  refine (root_walk ps v w1 (by have := Sl.keys_len8 h8 hps; omega) HV.out (fun s hs => by have := HZ.out s hs; omega) (HT.out.below hb1)).mono ?_
  rintro e w2 ⟨q, rfl, hq, hqz, hb2⟩
  have HX : Hid (q.data.toList = Sl.pub s.data.toList h) := by show _ = _; rw [hq.out, hps.out]; rfl
  clear hq hps
  go_wp2_with fail
  go_ret2
  exact ⟨q, rfl, HX, hqz, hb1.trans (hb2.mono hb1.size)⟩
end Go.Proofs.YthhfcijgcpnfcaaDoor
