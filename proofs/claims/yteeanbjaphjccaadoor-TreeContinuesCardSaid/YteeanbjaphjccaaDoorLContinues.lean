/-
  TreeContinues: for every two lists and link the call returns true and its arguments stay, where the three tables of the library hold what the program's text lays.
-/
import Derived.Test.YteeanbjaphjccaaDoorLFrameX
import Derived.Test.YteeanbjaphjccaaDoorTHead
import Derived.Test.YteeanbjaphjccaaDoorTFew
import Derived.Test.YteeanbjaphjccaaDoorRTexts
import Derived.Test.YteeanbjaphjccaaDoorRLTexts
import Derived.Test.YteeanbjaphjccaaDoorRShown
namespace Go.Proofs.YteeanbjaphjccaaDoor
open Go.RowKit
theorem Tr.ext_true {old root : Tr.T} {n m : Nat} {ps : List Tr.T} (h : Tr.ext old m root n ps = true) (h0 : 0 < m) : ps.length = Tr.llen n m true ∧ Tr.both n m true old ps = (old, root) := by
  unfold Tr.ext at h
  rw [Int.toNat_natCast, Int.toNat_natCast, if_neg (by omega)] at h
  simp only [Bool.and_eq_true, decide_eq_true_eq] at h
  exact h.2
theorem own_apart {w1 w6 : World} {b1 b6 : Nat} {e : TypeId} {size : Nat} {v1 v6 : Value} {n1 n6 : Nat} {x1 x6 : List Value} (h1 : w1.ownsRow b1 e size v1 n1 x1) (hs : w1.heap.size ≤ b6) (h6 : w6.ownsRow b6 e size v6 n6 x6) : v6.ownBlock = none ∨ v6.ownBlock ≠ v1.ownBlock := by
  cases hk : v6.ownBlock with
  | none => exact .inl rfl
  | some k =>
    right
    intro e
    have q1 := (h6.lt k hk).1
    have q2 := (h1.lt k e.symm).2
    omega
theorem IsTx.take_any' {w : World} {a : Option Addr} {cap : Nat} {ss : List ByteArray} (h : IsTx w (.slice a ss.length cap) ss) (k : Nat) (hk : k ≤ ss.length) : IsTx w (.slice a k cap) (ss.take k) := by
  obtain ⟨a', cap', e, h1, h2, hc⟩ := h
  cases e
  by_cases h0 : ss = []
  · subst h0
    have : k = 0 := by simpa using hk
    subst this
    exact ⟨a, cap, rfl, Nat.zero_le _, h2, fun h => absurd rfl h⟩
  · obtain ⟨b, off, rfl, hb, hc⟩ := hc h0
    exact IsTx.take h1 h2 hb hc k hk
end Go.Proofs.YteeanbjaphjccaaDoor
namespace Go.Proofs.YteeanbjaphjccaaDoor.treeContinues
open Go.ChangeShapes Go.WideShapes Go.ChangeAt Go.RowKit
open Go.WideMaps Go.WideElems
open Go.ChangeMaps (open_string shut_string)

set_option maxHeartbeats 8000000 in
set_option maxRecDepth 100000 in
theorem w_few1 (a l p : List ByteArray) (v1 v2 v3 : Value) (w : World) (hv1 : IsTx w v1 a) (hv2 : IsTx w v2 l) (hv3 : IsTx w v3 p) (ht : HasTab w) (hf1 : Tr.few a = false) :
    Calls Tryd.prog 8 #[v1, v2, v3] w fun e w' => e = .returned (.bool true) ∧ Below w.heap.size w w' := by
  have HB := Lib.hid (Below.refl w.heap.size w)
  have HT := Lib.hid ht
  have HV1 := Lib.hid hv1
  have HV2 := Lib.hid hv2
  have HV3 := Lib.hid hv3
  obtain ⟨a1, c1, rfl, g1, g2, _⟩ := hv1
  obtain ⟨a2, c2, rfl, g3, g4, _⟩ := hv2
  obtain ⟨a3, c3, rfl, g5, g6, _⟩ := hv3
  have HF1 := Lib.hid hf1
  clear ht hf1
  go_enter Tryd.func8, Tryd.ntmps8
  go_wp2_with fail
  refine (head_walk w HT.out).mono ?_
  rintro e w1 ⟨rfl, hb⟩
  replace HB := Lib.hid (HB.out.trans (hb.mono HB.out.size))
  replace HT := Lib.hid (HT.out.below hb)
  replace HV1 := Lib.hid (HV1.out.below hb)
  replace HV2 := Lib.hid (HV2.out.below hb)
  replace HV3 := Lib.hid (HV3.out.below hb)
  clear hb
  go_wp2_with fail
  refine (lawfew_false _ a w1 HV1.out HF1.out).mono ?_
  rintro e w2 ⟨rfl, rfl⟩
  go_wp2_with fail
  go_ret
  exact ⟨rfl, HB.out⟩

set_option maxHeartbeats 8000000 in
set_option maxRecDepth 100000 in
theorem w_few2 (a l p : List ByteArray) (v1 v2 v3 : Value) (w : World) (hv1 : IsTx w v1 a) (hv2 : IsTx w v2 l) (hv3 : IsTx w v3 p) (ht : HasTab w) (hf1 : Tr.few a = true) (hf2 : Tr.few l = false) :
    Calls Tryd.prog 8 #[v1, v2, v3] w fun e w' => e = .returned (.bool true) ∧ Below w.heap.size w w' := by
  have HB := Lib.hid (Below.refl w.heap.size w)
  have HT := Lib.hid ht
  have HV1 := Lib.hid hv1
  have HV2 := Lib.hid hv2
  have HV3 := Lib.hid hv3
  obtain ⟨a1, c1, rfl, g1, g2, _⟩ := hv1
  obtain ⟨a2, c2, rfl, g3, g4, _⟩ := hv2
  obtain ⟨a3, c3, rfl, g5, g6, _⟩ := hv3
  have HF1 := Lib.hid hf1
  have HF2 := Lib.hid hf2
  clear ht hf1 hf2
  go_enter Tryd.func8, Tryd.ntmps8
  go_wp2_with fail
  refine (head_walk w HT.out).mono ?_
  rintro e w1 ⟨rfl, hb⟩
  replace HB := Lib.hid (HB.out.trans (hb.mono HB.out.size))
  replace HT := Lib.hid (HT.out.below hb)
  replace HV1 := Lib.hid (HV1.out.below hb)
  replace HV2 := Lib.hid (HV2.out.below hb)
  replace HV3 := Lib.hid (HV3.out.below hb)
  clear hb
  go_wp2_with fail
  refine (lawfew_true _ a w1 HV1.out HF1.out).mono ?_
  rintro e w2 ⟨rfl, rfl⟩
  go_wp2_with fail
  refine (lawfew_false _ l w1 HV2.out HF2.out).mono ?_
  rintro e w2 ⟨rfl, rfl⟩
  go_wp2_with fail
  go_ret
  exact ⟨rfl, HB.out⟩

set_option maxHeartbeats 8000000 in
set_option maxRecDepth 100000 in
theorem w_few3 (a l p : List ByteArray) (v1 v2 v3 : Value) (w : World) (hv1 : IsTx w v1 a) (hv2 : IsTx w v2 l) (hv3 : IsTx w v3 p) (ht : HasTab w) (hf1 : Tr.few a = true) (hf2 : Tr.few l = true) (hf3 : Tr.few p = false) :
    Calls Tryd.prog 8 #[v1, v2, v3] w fun e w' => e = .returned (.bool true) ∧ Below w.heap.size w w' := by
  have HB := Lib.hid (Below.refl w.heap.size w)
  have HT := Lib.hid ht
  have HV1 := Lib.hid hv1
  have HV2 := Lib.hid hv2
  have HV3 := Lib.hid hv3
  obtain ⟨a1, c1, rfl, g1, g2, _⟩ := hv1
  obtain ⟨a2, c2, rfl, g3, g4, _⟩ := hv2
  obtain ⟨a3, c3, rfl, g5, g6, _⟩ := hv3
  have HF1 := Lib.hid hf1
  have HF2 := Lib.hid hf2
  have HF3 := Lib.hid hf3
  clear ht hf1 hf2 hf3
  go_enter Tryd.func8, Tryd.ntmps8
  go_wp2_with fail
  refine (head_walk w HT.out).mono ?_
  rintro e w1 ⟨rfl, hb⟩
  replace HB := Lib.hid (HB.out.trans (hb.mono HB.out.size))
  replace HT := Lib.hid (HT.out.below hb)
  replace HV1 := Lib.hid (HV1.out.below hb)
  replace HV2 := Lib.hid (HV2.out.below hb)
  replace HV3 := Lib.hid (HV3.out.below hb)
  clear hb
  go_wp2_with fail
  refine (lawfew_true _ a w1 HV1.out HF1.out).mono ?_
  rintro e w2 ⟨rfl, rfl⟩
  go_wp2_with fail
  refine (lawfew_true _ l w1 HV2.out HF2.out).mono ?_
  rintro e w2 ⟨rfl, rfl⟩
  go_wp2_with fail
  refine (lawfew_false _ p w1 HV3.out HF3.out).mono ?_
  rintro e w2 ⟨rfl, rfl⟩
  go_wp2_with fail
  go_ret
  exact ⟨rfl, HB.out⟩

set_option maxHeartbeats 8000000 in
set_option maxRecDepth 100000 in
theorem w_len (a l p : List ByteArray) (v1 v2 v3 : Value) (w : World) (hv1 : IsTx w v1 a) (hv2 : IsTx w v2 l) (hv3 : IsTx w v3 p) (ht : HasTab w) (hf1 : Tr.few a = true) (hf2 : Tr.few l = true) (hf3 : Tr.few p = true) (hlen : (l.length : Int) < (a.length : Int)) :
    Calls Tryd.prog 8 #[v1, v2, v3] w fun e w' => e = .returned (.bool true) ∧ Below w.heap.size w w' := by
  have HB := Lib.hid (Below.refl w.heap.size w)
  have HT := Lib.hid ht
  have HV1 := Lib.hid hv1
  have HV2 := Lib.hid hv2
  have HV3 := Lib.hid hv3
  obtain ⟨a1, c1, rfl, g1, g2, _⟩ := hv1
  obtain ⟨a2, c2, rfl, g3, g4, _⟩ := hv2
  obtain ⟨a3, c3, rfl, g5, g6, _⟩ := hv3
  have HF1 := Lib.hid hf1
  have HF2 := Lib.hid hf2
  have HF3 := Lib.hid hf3
  clear ht hf1 hf2 hf3
  go_enter Tryd.func8, Tryd.ntmps8
  go_wp2_with fail
  refine (head_walk w HT.out).mono ?_
  rintro e w1 ⟨rfl, hb⟩
  replace HB := Lib.hid (HB.out.trans (hb.mono HB.out.size))
  replace HT := Lib.hid (HT.out.below hb)
  replace HV1 := Lib.hid (HV1.out.below hb)
  replace HV2 := Lib.hid (HV2.out.below hb)
  replace HV3 := Lib.hid (HV3.out.below hb)
  clear hb
  go_wp2_with fail
  refine (lawfew_true _ a w1 HV1.out HF1.out).mono ?_
  rintro e w2 ⟨rfl, rfl⟩
  go_wp2_with fail
  refine (lawfew_true _ l w1 HV2.out HF2.out).mono ?_
  rintro e w2 ⟨rfl, rfl⟩
  go_wp2_with fail
  refine (lawfew_true _ p w1 HV3.out HF3.out).mono ?_
  rintro e w2 ⟨rfl, rfl⟩
  go_wp2_with fail
  go_ret
  exact ⟨rfl, HB.out⟩

set_option maxHeartbeats 8000000 in
set_option maxRecDepth 100000 in
theorem w_no (a l p : List ByteArray) (v1 v2 v3 : Value) (w : World) (hv1 : IsTx w v1 a) (hv2 : IsTx w v2 l) (hv3 : IsTx w v3 p) (ht : HasTab w) (hf1 : Tr.few a = true) (hf2 : Tr.few l = true) (hf3 : Tr.few p = true) (hm : a.length ≤ l.length) (hex : Tr.ext (Tr.root (Tr.bs a)) a.length (Tr.root (Tr.bs l)) l.length (Tr.bs p) = false) :
    Calls Tryd.prog 8 #[v1, v2, v3] w fun e w' => e = .returned (.bool true) ∧ Below w.heap.size w w' := by
  have HB := Lib.hid (Below.refl w.heap.size w)
  have HT := Lib.hid ht
  have HV1 := Lib.hid hv1
  have HV2 := Lib.hid hv2
  have HV3 := Lib.hid hv3
  obtain ⟨a1, c1, rfl, g1, g2, _⟩ := hv1
  obtain ⟨a2, c2, rfl, g3, g4, _⟩ := hv2
  obtain ⟨a3, c3, rfl, g5, g6, _⟩ := hv3
  have HF1 := Lib.hid hf1
  have HF2 := Lib.hid hf2
  have HF3 := Lib.hid hf3
  have HS1 := Lib.hid (Tr.few_small hf1)
  have HS2 := Lib.hid (Tr.few_small hf2)
  have HS3 := Lib.hid (Tr.few_small hf3)
  have ha20 := (Tr.few_out hf1).1
  have hl20 := (Tr.few_out hf2).1
  have hlen : ¬ (l.length : Int) < (a.length : Int) := by omega
  have s1 : (0 : Int) ≤ (a.length : Int) := by omega
  have s2 : (a.length : Int) ≤ (c2 : Int) := by omega
  have HEX := Lib.hid hex
  clear ht hf1 hf2 hf3 hex
  go_enter Tryd.func8, Tryd.ntmps8
  go_wp2_with fail
  refine (head_walk w HT.out).mono ?_
  rintro e w1 ⟨rfl, hb⟩
  replace HB := Lib.hid (HB.out.trans (hb.mono HB.out.size))
  replace HT := Lib.hid (HT.out.below hb)
  replace HV1 := Lib.hid (HV1.out.below hb)
  replace HV2 := Lib.hid (HV2.out.below hb)
  replace HV3 := Lib.hid (HV3.out.below hb)
  clear hb
  go_wp2_with fail
  refine (lawfew_true _ a w1 HV1.out HF1.out).mono ?_
  rintro e w2 ⟨rfl, rfl⟩
  go_wp2_with fail
  refine (lawfew_true _ l w1 HV2.out HF2.out).mono ?_
  rintro e w2 ⟨rfl, rfl⟩
  go_wp2_with fail
  refine (lawfew_true _ p w1 HV3.out HF3.out).mono ?_
  rintro e w2 ⟨rfl, rfl⟩
  go_wp2_with fail
  refine (root_walk a _ _ (Tr.few_len HF1.out) HV1.out HS1.out HT.out).mono ?_
  rintro e w3 ⟨r1, rfl, hr1, hz1r, hb⟩
  replace HB := Lib.hid (HB.out.trans (hb.mono HB.out.size))
  replace HT := Lib.hid (HT.out.below hb)
  replace HV1 := Lib.hid (HV1.out.below hb)
  replace HV2 := Lib.hid (HV2.out.below hb)
  replace HV3 := Lib.hid (HV3.out.below hb)
  clear hb
  go_wp2_with fail
  refine (root_walk l _ _ (Tr.few_len HF2.out) HV2.out HS2.out HT.out).mono ?_
  rintro e w4 ⟨r2, rfl, hr2, hz2r, hb⟩
  replace HB := Lib.hid (HB.out.trans (hb.mono HB.out.size))
  replace HT := Lib.hid (HT.out.below hb)
  replace HV1 := Lib.hid (HV1.out.below hb)
  replace HV2 := Lib.hid (HV2.out.below hb)
  replace HV3 := Lib.hid (HV3.out.below hb)
  clear hb
  go_wp2_with fail
  refine ((ext_walk r1 r2 a.length l.length _ p _ HT.out HV3.out (by omega) (by omega) HS3.out).mono fun _ _ h => boolOut (c := false) h (by rw [hr1.out, hr2.out]; exact HEX.out)).mono ?_
  rintro e w5 ⟨rfl, hb⟩
  replace HB := Lib.hid (HB.out.trans (hb.mono HB.out.size))
  replace HT := Lib.hid (HT.out.below hb)
  replace HV1 := Lib.hid (HV1.out.below hb)
  replace HV2 := Lib.hid (HV2.out.below hb)
  replace HV3 := Lib.hid (HV3.out.below hb)
  clear hb hr1 hr2
  go_wp2_with fail
  go_ret
  exact ⟨rfl, HB.out⟩

set_option maxHeartbeats 8000000 in
set_option maxRecDepth 100000 in
theorem w_same (a l p : List ByteArray) (v1 v2 v3 : Value) (w : World) (hv1 : IsTx w v1 a) (hv2 : IsTx w v2 l) (hv3 : IsTx w v3 p) (ht : HasTab w) (hf1 : Tr.few a = true) (hf2 : Tr.few l = true) (hf3 : Tr.few p = true) (hm : a.length ≤ l.length) (hex : Tr.ext (Tr.root (Tr.bs a)) a.length (Tr.root (Tr.bs l)) l.length (Tr.bs p) = true) (hsm : Dg.same a (l.take a.length) = true) :
    Calls Tryd.prog 8 #[v1, v2, v3] w fun e w' => e = .returned (.bool true) ∧ Below w.heap.size w w' := by
  have HB := Lib.hid (Below.refl w.heap.size w)
  have HT := Lib.hid ht
  have HV1 := Lib.hid hv1
  have HV2 := Lib.hid hv2
  have HV3 := Lib.hid hv3
  obtain ⟨a1, c1, rfl, g1, g2, _⟩ := hv1
  obtain ⟨a2, c2, rfl, g3, g4, _⟩ := hv2
  obtain ⟨a3, c3, rfl, g5, g6, _⟩ := hv3
  have HF1 := Lib.hid hf1
  have HF2 := Lib.hid hf2
  have HF3 := Lib.hid hf3
  have HS1 := Lib.hid (Tr.few_small hf1)
  have HS2 := Lib.hid (Tr.few_small hf2)
  have HS3 := Lib.hid (Tr.few_small hf3)
  have ha20 := (Tr.few_out hf1).1
  have hl20 := (Tr.few_out hf2).1
  have hlen : ¬ (l.length : Int) < (a.length : Int) := by omega
  have s1 : (0 : Int) ≤ (a.length : Int) := by omega
  have s2 : (a.length : Int) ≤ (c2 : Int) := by omega
  have HEX := Lib.hid hex
  have HSM := Lib.hid hsm
  clear ht hf1 hf2 hf3 hex hsm
  go_enter Tryd.func8, Tryd.ntmps8
  go_wp2_with fail
  refine (head_walk w HT.out).mono ?_
  rintro e w1 ⟨rfl, hb⟩
  replace HB := Lib.hid (HB.out.trans (hb.mono HB.out.size))
  replace HT := Lib.hid (HT.out.below hb)
  replace HV1 := Lib.hid (HV1.out.below hb)
  replace HV2 := Lib.hid (HV2.out.below hb)
  replace HV3 := Lib.hid (HV3.out.below hb)
  clear hb
  go_wp2_with fail
  refine (lawfew_true _ a w1 HV1.out HF1.out).mono ?_
  rintro e w2 ⟨rfl, rfl⟩
  go_wp2_with fail
  refine (lawfew_true _ l w1 HV2.out HF2.out).mono ?_
  rintro e w2 ⟨rfl, rfl⟩
  go_wp2_with fail
  refine (lawfew_true _ p w1 HV3.out HF3.out).mono ?_
  rintro e w2 ⟨rfl, rfl⟩
  go_wp2_with fail
  refine (root_walk a _ _ (Tr.few_len HF1.out) HV1.out HS1.out HT.out).mono ?_
  rintro e w3 ⟨r1, rfl, hr1, hz1r, hb⟩
  replace HB := Lib.hid (HB.out.trans (hb.mono HB.out.size))
  replace HT := Lib.hid (HT.out.below hb)
  replace HV1 := Lib.hid (HV1.out.below hb)
  replace HV2 := Lib.hid (HV2.out.below hb)
  replace HV3 := Lib.hid (HV3.out.below hb)
  clear hb
  go_wp2_with fail
  refine (root_walk l _ _ (Tr.few_len HF2.out) HV2.out HS2.out HT.out).mono ?_
  rintro e w4 ⟨r2, rfl, hr2, hz2r, hb⟩
  replace HB := Lib.hid (HB.out.trans (hb.mono HB.out.size))
  replace HT := Lib.hid (HT.out.below hb)
  replace HV1 := Lib.hid (HV1.out.below hb)
  replace HV2 := Lib.hid (HV2.out.below hb)
  replace HV3 := Lib.hid (HV3.out.below hb)
  clear hb
  go_wp2_with fail
  refine ((ext_walk r1 r2 a.length l.length _ p _ HT.out HV3.out (by omega) (by omega) HS3.out).mono fun _ _ h => boolOut (c := true) h (by rw [hr1.out, hr2.out]; exact HEX.out)).mono ?_
  rintro e w5 ⟨rfl, hb⟩
  replace HB := Lib.hid (HB.out.trans (hb.mono HB.out.size))
  replace HT := Lib.hid (HT.out.below hb)
  replace HV1 := Lib.hid (HV1.out.below hb)
  replace HV2 := Lib.hid (HV2.out.below hb)
  replace HV3 := Lib.hid (HV3.out.below hb)
  clear hb hr1 hr2
  go_wp2_with fail
  refine (same_walk _ _ a (l.take a.length) _ HV1.out.texts (HV2.out.take_any' a.length hm).texts HV1.out.len (by rw [List.length_take]; omega)).mono ?_
  rintro e w6 ⟨rfl, hb⟩
  rw [HSM.out]
  replace HB := Lib.hid (HB.out.trans (hb.mono HB.out.size))
  replace HT := Lib.hid (HT.out.below hb)
  replace HV1 := Lib.hid (HV1.out.below hb)
  replace HV2 := Lib.hid (HV2.out.below hb)
  replace HV3 := Lib.hid (HV3.out.below hb)
  clear hb
  go_wp2_with fail
  go_ret
  exact ⟨rfl, HB.out⟩

set_option maxHeartbeats 8000000 in
set_option maxRecDepth 100000 in
theorem w_main (a l p : List ByteArray) (v1 v2 v3 : Value) (w : World) (hv1 : IsTx w v1 a) (hv2 : IsTx w v2 l) (hv3 : IsTx w v3 p) (ht : HasTab w) (hf1 : Tr.few a = true) (hf2 : Tr.few l = true) (hf3 : Tr.few p = true) (hm : a.length ≤ l.length) (hex : Tr.ext (Tr.root (Tr.bs a)) a.length (Tr.root (Tr.bs l)) l.length (Tr.bs p) = true) (hsm : Dg.same a (l.take a.length) = false) :
    Calls Tryd.prog 8 #[v1, v2, v3] w fun e w' => e = .returned (.bool true) ∧ Below w.heap.size w w' := by
  have HB := Lib.hid (Below.refl w.heap.size w)
  have HT := Lib.hid ht
  have HV1 := Lib.hid hv1
  have HV2 := Lib.hid hv2
  have HV3 := Lib.hid hv3
  obtain ⟨a1, c1, rfl, g1, g2, _⟩ := hv1
  obtain ⟨a2, c2, rfl, g3, g4, _⟩ := hv2
  obtain ⟨a3, c3, rfl, g5, g6, _⟩ := hv3
  have HF1 := Lib.hid hf1
  have HF2 := Lib.hid hf2
  have HF3 := Lib.hid hf3
  have HS1 := Lib.hid (Tr.few_small hf1)
  have HS2 := Lib.hid (Tr.few_small hf2)
  have HS3 := Lib.hid (Tr.few_small hf3)
  have ha20 := (Tr.few_out hf1).1
  have hl20 := (Tr.few_out hf2).1
  have hlen : ¬ (l.length : Int) < (a.length : Int) := by omega
  have s1 : (0 : Int) ≤ (a.length : Int) := by omega
  have s2 : (a.length : Int) ≤ (c2 : Int) := by omega
  have h0 : 0 < a.length := by
    rcases Nat.eq_zero_or_pos a.length with h | h
    · have : a = [] := List.length_eq_zero_iff.1 h
      subst this
      exact absurd hsm (by simp [Dg.same])
    · exact h
  obtain ⟨hpl, hbo⟩ := Tr.ext_true hex h0
  rw [Tr.bs_len] at hpl
  have hsh : Tr.Shown (Tr.texts (Tr.bs a) ++ Tr.texts (Tr.bs l) ++ Tr.texts (Tr.bs (l.take a.length)) ++ Tr.ltexts l.length a.length true (Tr.root (Tr.bs a)) (Tr.bs p)) := by
    have hc := Tr.continues (Tr.bs a) (Tr.bs l) (Tr.bs p) (by rw [Tr.bs_len]; exact h0) (by rw [Tr.bs_len, Tr.bs_len]; exact hm) (by rw [Tr.bs_len, Tr.bs_len]; exact hbo)
    rw [Tr.bs_len, Tr.bs_len, ← Tr.bs_take] at hc
    rcases hc with h | h
    · exact absurd h (of_decide_eq_false hsm)
    · exact h
  have HEX := Lib.hid hex
  have HSM := Lib.hid hsm
  have HSH := Lib.hid hsh
  have HPL := Lib.hid hpl
  have HM := Lib.hid hm
  have a0 : ((a.length : Int) == 0) = false := beq_eq_false_iff_ne.2 (by omega)
  obtain ⟨i0, hii, hz0, hz1, hz2⟩ := info_parts one_str
  have HI := Lib.hid hii
  clear ht hf1 hf2 hf3 hex hsm hsh hbo hpl hii
  go_enter Tryd.func8, Tryd.ntmps8
  go_wp2_with fail
  refine (head_walk w HT.out).mono ?_
  rintro e w1 ⟨rfl, hb⟩
  replace HB := Lib.hid (HB.out.trans (hb.mono HB.out.size))
  replace HT := Lib.hid (HT.out.below hb)
  replace HV1 := Lib.hid (HV1.out.below hb)
  replace HV2 := Lib.hid (HV2.out.below hb)
  replace HV3 := Lib.hid (HV3.out.below hb)
  clear hb
  go_wp2_with fail
  refine (lawfew_true _ a w1 HV1.out HF1.out).mono ?_
  rintro e w2 ⟨rfl, rfl⟩
  go_wp2_with fail
  refine (lawfew_true _ l w1 HV2.out HF2.out).mono ?_
  rintro e w2 ⟨rfl, rfl⟩
  go_wp2_with fail
  refine (lawfew_true _ p w1 HV3.out HF3.out).mono ?_
  rintro e w2 ⟨rfl, rfl⟩
  go_wp2_with fail
  refine (root_walk a _ _ (Tr.few_len HF1.out) HV1.out HS1.out HT.out).mono ?_
  rintro e w3 ⟨r1, rfl, hr1, hz1r, hb⟩
  replace HB := Lib.hid (HB.out.trans (hb.mono HB.out.size))
  replace HT := Lib.hid (HT.out.below hb)
  replace HV1 := Lib.hid (HV1.out.below hb)
  replace HV2 := Lib.hid (HV2.out.below hb)
  replace HV3 := Lib.hid (HV3.out.below hb)
  clear hb
  go_wp2_with fail
  refine (root_walk l _ _ (Tr.few_len HF2.out) HV2.out HS2.out HT.out).mono ?_
  rintro e w4 ⟨r2, rfl, hr2, hz2r, hb⟩
  replace HB := Lib.hid (HB.out.trans (hb.mono HB.out.size))
  replace HT := Lib.hid (HT.out.below hb)
  replace HV1 := Lib.hid (HV1.out.below hb)
  replace HV2 := Lib.hid (HV2.out.below hb)
  replace HV3 := Lib.hid (HV3.out.below hb)
  clear hb
  go_wp2_with fail
  refine ((ext_walk r1 r2 a.length l.length _ p _ HT.out HV3.out (by omega) (by omega) HS3.out).mono fun _ _ h => boolOut (c := true) h (by rw [hr1.out, hr2.out]; exact HEX.out)).mono ?_
  rintro e w5 ⟨rfl, hb⟩
  replace HB := Lib.hid (HB.out.trans (hb.mono HB.out.size))
  replace HT := Lib.hid (HT.out.below hb)
  replace HV1 := Lib.hid (HV1.out.below hb)
  replace HV2 := Lib.hid (HV2.out.below hb)
  replace HV3 := Lib.hid (HV3.out.below hb)
  clear hb hr1 hr2
  go_wp2_with fail
  refine (same_walk _ _ a (l.take a.length) _ HV1.out.texts (HV2.out.take_any' a.length hm).texts HV1.out.len (by rw [List.length_take]; omega)).mono ?_
  rintro e w6 ⟨rfl, hb⟩
  rw [HSM.out]
  replace HB := Lib.hid (HB.out.trans (hb.mono HB.out.size))
  replace HT := Lib.hid (HT.out.below hb)
  replace HV1 := Lib.hid (HV1.out.below hb)
  replace HV2 := Lib.hid (HV2.out.below hb)
  replace HV3 := Lib.hid (HV3.out.below hb)
  clear hb
  go_wp2_with fail
  refine (link_ok _ l a.length _ HV2.out HS2.out (Tr.few_len HF2.out) h0 HM.out HT.out).mono ?_
  rintro e w7 ⟨vo, lo, rfl, hto, hpo, _, hb⟩
  replace HB := Lib.hid (HB.out.trans (hb.mono HB.out.size))
  replace HT := Lib.hid (HT.out.below hb)
  replace HV1 := Lib.hid (HV1.out.below hb)
  replace HV2 := Lib.hid (HV2.out.below hb)
  replace HV3 := Lib.hid (HV3.out.below hb)
  have hlo : lo.length = p.length := by rw [Tr.len_of hpo, Tr.link_length _ _ _ _ rfl, Tr.bs_len, HPL.out]
  obtain ⟨ao, co, rfl, _, _, _⟩ := hto
  have b1 : ((lo.length : Int) != (p.length : Int)) = false := by rw [hlo]; simp
  have HBS := Lib.hid HB.out.size
  have HTA : Hid (∀ w', Tr.Old w7 w' → Calls Tryd.prog 23 #[.slice a1 a.length c1] w' (OwnOut 10000 (Tr.texts (Tr.bs a)) w')) := fun w' h => reftexts_ind 20 a _ _ ha20 (by omega) (HV1.out.below h.out) HS1.out
  have HTL : Hid (∀ w', Tr.Old w7 w' → Calls Tryd.prog 23 #[.slice a2 l.length c2] w' (OwnOut 10000 (Tr.texts (Tr.bs l)) w')) := fun w' h => reftexts_ind 20 l _ _ hl20 (by omega) (HV2.out.below h.out) HS2.out
  have HTM : Hid (∀ w', Tr.Old w7 w' → Calls Tryd.prog 23 #[.slice a2 a.length c2] w' (OwnOut 10000 (Tr.texts (Tr.bs (l.take a.length))) w')) := fun w' h => reftexts_ind 20 _ _ _ (by rw [List.length_take]; omega) (by omega) ((HV2.out.take_any' a.length HM.out).below h.out) (fun s h => HS2.out s (List.mem_of_mem_take h))
  clear hb hlo
  go_wp2_with fail
  go_region_held3 (fun w' => Tr.Old w7 w') (first | exact Tr.Old.drew w7 | exact Tr.Old.step (by with_reducible assumption) (by with_reducible assumption) | with_reducible assumption)
    (first
      | (go_at_call 23; (have hOa := (by with_reducible assumption : Tr.Old w7 _)); (with_reducible refine (HTA.out _ hOa).mono ?_); rintro e w8 ⟨v4, l4, rfl, ho4, hp4, hzl4, hb4⟩; have hc4 : l4.length ≤ 41 := (by rw [Tr.len_of hp4]; have := Tr.texts_length 20 (Tr.bs a) (by rw [Tr.bs_len]; exact ha20); rw [Tr.bs_len] at this; omega))
      | (go_at_call 23; (with_reducible refine (HTL.out _ (by with_reducible assumption)).mono ?_); rintro e w9 ⟨v5, l5, rfl, ho5, hp5, hzl5, hb5⟩; have hc5 : l5.length ≤ 41 := (by rw [Tr.len_of hp5]; have := Tr.texts_length 20 (Tr.bs l) (by rw [Tr.bs_len]; exact hl20); rw [Tr.bs_len] at this; omega))
      | (go_at_call 23; (with_reducible refine (HTM.out _ (by with_reducible assumption)).mono ?_); rintro e w10 ⟨v6, l6, rfl, ho6, hp6, hzl6, hb6⟩; have hc6 : l6.length ≤ 41 := (by rw [Tr.len_of hp6]; have := Tr.texts_length 20 (Tr.bs (l.take a.length)) (by rw [Tr.bs_len, List.length_take]; omega); rw [Tr.bs_len, List.length_take] at this; omega))
      | (have hs0 := Tr.Old.out (by with_reducible assumption : Tr.Old w7 _); refine step_append_tx (by rfl) (.tmp 75) (.tmp 77) 22 rfl w7.heap.size 9 i0 (.string ⟨#[]⟩) 16 Tryd.underlying22 HI.out hz0 hz1 hz2 rfl v4 l4.length (Tr.cells l4) rfl (by first | exact own_at hb5 (own_mono ho4 hOa.out.size) | exact own_at hb6 (own_at hb5 (own_mono ho4 hOa.out.size))) v5 l5 rfl (by first | exact own_tx ho5 | exact (own_tx ho5).below hb6) (by unfold maxLen; omega) (by omega) hs0.size ?_; intro v11 w11 ho11 hg11; have hO11 := Tr.Old.grown (by with_reducible assumption) hg11 ho4 hOa.out.size)
      | (have hs0 := Tr.Old.out (by with_reducible assumption : Tr.Old w7 _); refine step_append_tx (by rfl) (.tmp 78) (.tmp 83) 22 rfl w7.heap.size 9 i0 (.string ⟨#[]⟩) 16 Tryd.underlying22 HI.out hz0 hz1 hz2 rfl v11 (l4 ++ l5).length (Tr.cells (l4 ++ l5)) rfl (by first | exact own_app ho11 | exact own_at hb6 (own_app ho11)) v6 l6 rfl (by first | exact own_tx ho6 | exact own_tx (ho6.kept hg11 (own_apart ho4 hb5.size ho6))) (by unfold maxLen; rw [List.length_append]; omega) (by rw [List.length_append]; omega) hs0.size ?_; intro v12 w12 ho12 hg12; have hO12 := Tr.Old.grown (by with_reducible assumption) hg12 (own_app ho11) (Nat.le_refl _)))
  all_goals
    have HO12 := Lib.hid (own_app ho12)
    have HH12 := Lib.hid hO12.out
    have hp456 := Tr.bs_app (Tr.bs_app hp4 hp5) hp6
    have HZ456 := Lib.hid (Tr.small_app (Tr.small_app hzl4 hzl5) hzl6)
    have hc456 : ((l4 ++ l5) ++ l6).length ≤ 123 := by rw [List.length_append, List.length_append]; omega
    obtain ⟨lt, hlt⟩ : ∃ lt, lt = (l4 ++ l5) ++ l6 := ⟨_, rfl⟩
    rw [← hlt] at HO12 hp456 HZ456 hc456
    replace HB := Lib.hid (HB.out.trans (HH12.out.mono HB.out.size))
    replace HT := Lib.hid (HT.out.below HH12.out)
    replace HV1 := Lib.hid (HV1.out.below HH12.out)
    replace HV3 := Lib.hid (HV3.out.below HH12.out)
    clear ho4 ho5 ho6 ho11 hg11 ho12 hg12 hp4 hp5 hp6 hb4 hb5 hb6 hO11 hO12 hOa hlt HTA HTL HTM
    go_wp2_with fail
    refine (root_walk a _ _ (Tr.few_len HF1.out) HV1.out HS1.out HT.out).mono ?_
    rintro e w13 ⟨r3, rfl, hr3, hz3r, hb⟩
    have HO13 := Lib.hid (own_at hb HO12.out)
    replace HB := Lib.hid (HB.out.trans (hb.mono HB.out.size))
    replace HV3 := Lib.hid (HV3.out.below hb)
    clear hb
    go_wp2_with fail
    refine (refltexts_ind l.length l.length a.length true r3 p _ _ h0 HM.out (Nat.le_refl _) (by omega) (by omega) HPL.out HS3.out HV3.out).mono ?_
    rintro e w14 ⟨v14, l14, rfl, ho14, hp14, hz14, hb⟩
    have HO14 := Lib.hid ho14
    have HOT := Lib.hid (own_at hb HO13.out)
    have HB14 := Lib.hid (HB.out.trans (hb.mono HB.out.size))
    have hc14 : l14.length ≤ 42 := by
      rw [Tr.len_of hp14]
      have q1 := Tr.ltexts_length l.length l.length a.length true r3.data.toList (Tr.bs p) (Nat.le_refl _)
      have q2 := Tr.llen_le 20 l.length a.length true (by omega)
      omega
    have hs0 := HB14.out.size
    have HBS7 : Hid (w.heap.size ≤ w7.heap.size) := HBS.out
    clear hb ho14
    rename_i hK
    dsimp only
    refine hK _ _ ?_
    refine wpList_append_txg (by rfl) (.tmp 87) (.tmp 95) 22 rfl w.heap.size 9 i0 (.string ⟨#[]⟩) 16 Tryd.underlying22 HI.out hz0 hz1 hz2 rfl v12 lt.length (Tr.cells lt) rfl (own_mono HOT.out HBS7.out) v14 l14 rfl (own_tx HO14.out) (by unfold maxLen; omega) (by omega) hs0 ?_
    intro v15 w15 ho15 hg15
    have HB15 := Lib.hid (HB14.out.grown hg15 hs0 (fun k hk => Nat.le_trans HBS7.out (HOT.out.lt k hk).1))
    have HT15 := Lib.hid (own_tx (own_app ho15))
    have hbs := (Tr.bs_app hp456 hp14).out
    rw [hr3.out] at hbs
    have HSH15 : Hid (Tr.Shown (Tr.bs (lt ++ l14))) := by show Tr.Shown _; rw [hbs]; exact HSH.out
    have HZ15 : Hid (∀ s ∈ lt ++ l14, s.size ≤ 1000000) := fun s h => by have := Tr.small_app HZ456.out hz14 s h; omega
    clear ho15 hg15 hbs hp456 hp14 hz14 hK hr3
    go_wp2_with fail
    refine (refshown_walk v15 (lt ++ l14) w15 HT15.out HZ15.out (by rw [List.length_append]; omega) HSH15.out).mono ?_
    rintro e w16 ⟨rfl, hb⟩
    replace HB := Lib.hid (HB15.out.trans (hb.mono HB15.out.size))
    clear hb
    go_wp2_with fail
    go_ret
    exact ⟨rfl, HB.out⟩

theorem law_walk (v1 : Value) (a : List ByteArray) (v2 : Value) (l : List ByteArray) (v3 : Value) (p : List ByteArray) (w : World) (hv1 : IsTx w v1 a) (_h1 : ∀ s ∈ a, s.size ≤ 9223372036854775807) (hv2 : IsTx w v2 l) (_h2 : ∀ s ∈ l, s.size ≤ 9223372036854775807) (hv3 : IsTx w v3 p) (_h3 : ∀ s ∈ p, s.size ≤ 9223372036854775807) (ht : HasTab w) :
    Calls Tryd.prog 8 #[v1, v2, v3] w fun e w' => e = .returned (.bool true) ∧ Below w.heap.size w w' := by
  cases hf1 : Tr.few a with
  | false => exact w_few1 a l p v1 v2 v3 w hv1 hv2 hv3 ht hf1
  | true =>
    cases hf2 : Tr.few l with
    | false => exact w_few2 a l p v1 v2 v3 w hv1 hv2 hv3 ht hf1 hf2
    | true =>
      cases hf3 : Tr.few p with
      | false => exact w_few3 a l p v1 v2 v3 w hv1 hv2 hv3 ht hf1 hf2 hf3
      | true =>
        by_cases hm : a.length ≤ l.length
        · cases hex : Tr.ext (Tr.root (Tr.bs a)) a.length (Tr.root (Tr.bs l)) l.length (Tr.bs p) with
          | false => exact w_no a l p v1 v2 v3 w hv1 hv2 hv3 ht hf1 hf2 hf3 hm hex
          | true =>
            cases hs : Dg.same a (l.take a.length) with
            | true => exact w_same a l p v1 v2 v3 w hv1 hv2 hv3 ht hf1 hf2 hf3 hm hex hs
            | false => exact w_main a l p v1 v2 v3 w hv1 hv2 hv3 ht hf1 hf2 hf3 hm hex hs
        · exact w_len a l p v1 v2 v3 w hv1 hv2 hv3 ht hf1 hf2 hf3 (by omega)

/-- What the walk gives, for all arguments and every world that holds the tables. -/
theorem contract (H : Type) (enc : TypeId × Value → H) (W : World) (base : Nat) (args : Array Value) (ds gs : List (DataW H)) (before : List MemPlace)
    (hval : ∀ (j : Nat) t v, Tryd.f8.params[j]? = some t → args[j]? = some v → Value.okWide Tryd.prog W .any base t v)
    (hW : DataW.Whole enc Tryd.prog Tryd.f8.params.toList Rows.treeContinuesSpec.vars false W args.toList ds gs before) (hL : laidMetH Tryd.prog laidAll W) :
    Calls Tryd.prog 8 args W fun e W' => ∃ v, e = .returned v ∧ Rows.treeContinuesSpec.post enc Tryd.prog Tryd.f8 false true false false W args v W' := by
  have hW' := hW
  obtain ⟨p, q, hA0, hV, rfl, hfz, hnd⟩ := hW
  have hA : DataW.TrodAll enc Tryd.prog W 0 (fun _ => true) true Tryd.f8.params.toList args.toList ds p := hA0
  rw [Tryd.params8] at hA hval
  obtain ⟨v0, vs0, d0, ds0, p0, q0, hargs, rfl, rfl, h0, r0⟩ := trodAll_cons hA
  obtain ⟨v1, vs1, d1, ds1, p1, q1, rfl, rfl, rfl, h1, r1⟩ := trodAll_cons r0
  obtain ⟨v2, vs2, d2, ds2, p2, q2, rfl, rfl, rfl, h2, r2⟩ := trodAll_cons r1
  obtain ⟨rfl, rfl, rfl⟩ := trodAll_nil r2
  obtain rfl : args = #[v0, v1, v2] := by cases args; simp_all
  obtain ⟨rfl, rfl⟩ := trodVars_none hV
  obtain ⟨l0, t0, s0⟩ := open_tx (hval 0 22 v0 rfl rfl) h0
  obtain ⟨l1, t1, s1⟩ := open_tx (hval 1 22 v1 rfl rfl) h1
  obtain ⟨l2, t2, s2⟩ := open_tx (hval 2 22 v2 rfl rfl) h2
  refine (law_walk v0 l0 v1 l1 v2 l2 W t0 s0 t1 s1 t2 s2 (hasTab hL)).mono fun e W' ⟨he, hg⟩ => ?_
  subst he
  exact ⟨_, rfl, post_law rfl rfl rfl rfl rfl (by rw [Tryd.params8]; decide) hW' hg⟩

theorem laid_met (os : Os) : laidMet Tryd.prog Rows.treeContinuesRow.laid ((laidWorld os).forCall (fun _ _ => 0) ⟨#[], #[.slice none 0 0, .slice none 0 0, .slice none 0 0], []⟩).memory :=
  laidMet_of_run' 8 (by kernel_rfl) (by kernel_rfl)
theorem reads (os : Os) {H : Type} (enc : TypeId × Value → H) : ∃ places, DataW.whole enc Tryd.prog ((laidWorld os).forCall (fun _ _ => 0) ⟨#[], #[.slice none 0 0, .slice none 0 0, .slice none 0 0], []⟩).memory Tryd.f8.params.toList Rows.treeContinuesSpec.vars false #[Value.slice none 0 0, Value.slice none 0 0, Value.slice none 0 0].toList 8 = some ([.nil, .nil, .nil], [], places) :=
  ⟨[], by kernel_rfl⟩

set_option maxRecDepth 100000 in
theorem lifted (os : Os) (started : os.Started) (H : Type) (enc : TypeId × Value → H) (F : Stop.Interp) :
    ReturnsInHanded {} Tryd.checked os 8 .any ((OpenSpec.ofChange Rows.treeContinuesSpec).preRow enc Tryd.prog Tryd.f8 Rows.treeContinuesRow.domain false Rows.treeContinuesRow.laid) (((OpenSpec.ofChange Rows.treeContinuesSpec).at F).post enc Tryd.prog Tryd.f8 false true false false) := by
  obtain ⟨places, hx⟩ := reads os enc
  refine returnsInHanded_of_row (C := Tryd.checked) (s := OpenSpec.ofChange Rows.treeContinuesSpec) own started (by kernel_rfl) Tryd.func8
    (witness_row_at (enc := enc) (C := Tryd.checked) false (laidWorld os) #[.slice none 0 0, .slice none 0 0, .slice none 0 0] rfl (by kernel_rfl) (by kernel_rfl) (by kernel_rfl)
      (OpenSpec.preRow_of_cond 8 hx (by kernel_rfl) (fun k hk => by cases hk) (by kernel_rfl) (laid_met os))) ?_
  intro W base args ds gs before hval hW _ _ _ hL _ _
  exact contract H enc W base args ds gs before hval hW hL

theorem said : Rows.TreeContinuesSaid :=
  OpenClaim.holds_of_cond 8 Tryd.f8 rfl rfl rfl rfl rfl rfl rfl ⟨rfl, rfl, rfl, rfl, rfl⟩ rfl rfl rfl rfl rfl (by kernel_rfl) Tryd.func8 (by kernel_rfl)
    (of_decide_eq_true (by kernel_rfl)) (by unfold Func.isWrapper; first | (rw [if_pos (by decide +kernel)]; kernel_rfl) | (rw [if_neg (by decide +kernel)]; exact ⟨rfl, rfl⟩))
    (fun os started H enc _ F => by rw [OpenClaim.pre_eq_preRow]; exact lifted os started H enc F)

/-- No parameter wants a stand-in; the program's own looks are off: what the card asks. -/
theorem plain (f : FuncId) (fn : Func) (hf : Tryd.pinned.checked.prog.funcNamed "pandect/pandectlaw02.TreeContinues" = some f) (hfn : Tryd.pinned.checked.prog.funcs[f]? = some fn) :
    false = Tryd.pinned.checked.prog.looks [] ∧ ∀ (j : Nat) t, fn.params[j]? = some t → Tryd.pinned.checked.prog.wantsStandIn t = false := by
  obtain rfl : f = 8 := Option.some.inj ((show Tryd.prog.funcNamed "pandect/pandectlaw02.TreeContinues" = some 8 by kernel_rfl).symm.trans hf) |>.symm
  obtain rfl : fn = Tryd.f8 := (Option.some.inj (Tryd.func8.symm.trans hfn)).symm
  refine ⟨by kernel_rfl, fun j t ht => ?_⟩
  rw [Tryd.params8] at ht
  have hm := Array.mem_of_getElem? ht
  simp only [List.mem_toArray, List.mem_cons, List.not_mem_nil, or_false] at hm
  rcases hm with rfl | rfl | rfl
  · exact wants_texts
  · exact wants_texts
  · exact wants_texts

theorem card : Rows.TreeContinuesCardSaid :=
  Claim7.holds_tied_plain_at .later [] _ _ _ _ said (fun _ h => by cases h) (by kernel_rfl) (fun _ h => by cases h) treeContinues_row_tie rfl ⟨rfl, rfl⟩ (by kernel_rfl) rfl plain (by kernel_rfl)
end Go.Proofs.YteeanbjaphjccaaDoor.treeContinues
