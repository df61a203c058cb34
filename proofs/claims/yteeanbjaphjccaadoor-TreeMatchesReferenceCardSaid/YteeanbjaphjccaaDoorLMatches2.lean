/-
  TreeMatchesReference: for every list, numbers, texts and proof the call returns true and its arguments stay, where the three tables of the library hold what the program's text lays.
-/
import Derived.Test.YteeanbjaphjccaaDoorLFrameX
import Derived.Test.YteeanbjaphjccaaDoorTHead
import Derived.Test.YteeanbjaphjccaaDoorTFew
import Derived.Test.YteeanbjaphjccaaDoorRCheck
namespace Go.Proofs.YteeanbjaphjccaaDoor
open Go.RowKit
theorem path_spec (ss : List ByteArray) (hs : ∀ s ∈ ss, s.size ≤ 200) (hl : ss.length ≤ 4611686018427387904) (i : Int) : ∃ (p : List Tr.T) (err : Int),
    (∀ v w, IsTx w v ss → HasTab w → Calls Tryd.prog 11 #[v, .int .i64 i] w (TextsOut p err w)) ∧ (∀ v w, IsTx w v ss → Calls Tryd.prog 12 #[v, .int .i64 i] w (TextsOut p err w)) := by
  by_cases h0 : i < 0
  · exact ⟨[], 1, fun v w hv _ => path_low v ss i w hv h0, fun v w hv => refPath_low v ss i w hv h0⟩
  by_cases h1 : (ss.length : Int) ≤ i
  · exact ⟨[], 1, fun v w hv _ => path_high v ss i w hv h0 h1, fun v w hv => refPath_high v ss i w hv h0 h1⟩
  obtain ⟨i, rfl⟩ := Int.eq_ofNat_of_zero_le (by omega : 0 ≤ i)
  exact ⟨_, 0, fun v w hv ht => path_ok v ss i w hv hs hl (by omega) ht, fun v w hv => refPath_ok v ss i w hv hs hl (by omega)⟩
theorem link_spec (ss : List ByteArray) (hs : ∀ s ∈ ss, s.size ≤ 200) (hl : ss.length ≤ 4611686018427387904) (m : Int) : ∃ (p : List Tr.T) (err : Int),
    (∀ v w, IsTx w v ss → HasTab w → Calls Tryd.prog 13 #[v, .int .i64 m] w (TextsOut p err w)) ∧ (∀ v w, IsTx w v ss → Calls Tryd.prog 14 #[v, .int .i64 m] w (TextsOut p err w)) := by
  by_cases h0 : m < 0
  · exact ⟨[], 1, fun v w hv _ => link_low v ss m w hv h0, fun v w hv => refLink_low v ss m w hv h0⟩
  by_cases h1 : (ss.length : Int) < m
  · exact ⟨[], 1, fun v w hv _ => link_high v ss m w hv h0 h1, fun v w hv => refLink_high v ss m w hv h0 h1⟩
  by_cases h2 : m = 0
  · subst h2
    exact ⟨[], 0, fun v w hv _ => link_zero v ss w hv, fun v w hv => refLink_zero v ss w hv⟩
  obtain ⟨m, rfl⟩ := Int.eq_ofNat_of_zero_le (by omega : 0 ≤ m)
  refine ⟨_, 0, fun v w hv ht => link_ok v ss m w hv hs hl (by omega) (by omega) ht, fun v w hv => ?_⟩
  by_cases h3 : m = ss.length
  · subst h3
    exact refLink_all v ss w hv (by omega)
  · exact refLink_ok v ss m w hv hs hl (by omega) (by omega)
theorem same_bs (v1 v2 : Value) (a b : List ByteArray) (p : List Tr.T) (w : World) (h1 : IsTx w v1 a) (h2 : IsTx w v2 b) (ha : Hid (Tr.bs a = p)) (hb : Hid (Tr.bs b = p)) :
    Calls Tryd.prog 17 #[v1, v2] w fun e w' => e = .returned (.bool true) ∧ Below w.heap.size w w' := same_true v1 v2 a b w h1 h2 (by rw [ha.out, hb.out])
end Go.Proofs.YteeanbjaphjccaaDoor
namespace Go.Proofs.YteeanbjaphjccaaDoor.treeMatchesReference
open Go.ChangeShapes Go.WideShapes Go.ChangeAt Go.RowKit
open Go.WideMaps Go.WideElems
open Go.ChangeMaps (open_string shut_string)

set_option maxHeartbeats 4000000 in
set_option maxRecDepth 100000 in
theorem w_few1 (v : Value) (l : List ByteArray) (i m n : Int) (root old s : ByteArray) (pv : Value) (p : List ByteArray) (w : World) (hv : IsTx w v l) (hpv : IsTx w pv p) (ht : HasTab w) (hf : Tr.few l = false) :
    Calls Tryd.prog 3 #[v, .int .i64 i, .int .i64 m, .int .i64 n, .string root, .string old, .string s, pv] w fun e w' => e = .returned (.bool true) ∧ Below w.heap.size w w' := by
  have HB := Lib.hid (Below.refl w.heap.size w)
  have HT := Lib.hid ht
  have HV := Lib.hid hv
  have HPV := Lib.hid hpv
  clear ht hv hpv
  have HF := Lib.hid hf
  clear hf
  go_enter Tryd.func3, Tryd.ntmps3
  go_wp2_with fail
  refine (head_walk w HT.out).mono ?_
  rintro e w1 ⟨rfl, hb⟩
  replace HB := Lib.hid (HB.out.trans (hb.mono HB.out.size))
  replace HT := Lib.hid (HT.out.below hb)
  replace HV := Lib.hid (HV.out.below hb)
  replace HPV := Lib.hid (HPV.out.below hb)
  clear hb
  go_wp2_with fail
  refine (lawfew_false v l w1 HV.out HF.out).mono ?_
  rintro e w2 ⟨rfl, rfl⟩
  go_wp2_with fail
  go_ret
  exact ⟨rfl, HB.out⟩

set_option maxHeartbeats 4000000 in
set_option maxRecDepth 100000 in
theorem w_few2 (v : Value) (l : List ByteArray) (i m n : Int) (root old s : ByteArray) (pv : Value) (p : List ByteArray) (w : World) (hv : IsTx w v l) (hpv : IsTx w pv p) (ht : HasTab w) (hf : Tr.few l = true) (hf2 : Tr.few p = false) :
    Calls Tryd.prog 3 #[v, .int .i64 i, .int .i64 m, .int .i64 n, .string root, .string old, .string s, pv] w fun e w' => e = .returned (.bool true) ∧ Below w.heap.size w w' := by
  have HB := Lib.hid (Below.refl w.heap.size w)
  have HT := Lib.hid ht
  have HV := Lib.hid hv
  have HPV := Lib.hid hpv
  clear ht hv hpv
  have HF := Lib.hid hf
  have HF2 := Lib.hid hf2
  clear hf hf2
  go_enter Tryd.func3, Tryd.ntmps3
  go_wp2_with fail
  refine (head_walk w HT.out).mono ?_
  rintro e w1 ⟨rfl, hb⟩
  replace HB := Lib.hid (HB.out.trans (hb.mono HB.out.size))
  replace HT := Lib.hid (HT.out.below hb)
  replace HV := Lib.hid (HV.out.below hb)
  replace HPV := Lib.hid (HPV.out.below hb)
  clear hb
  go_wp2_with fail
  refine (lawfew_true v l w1 HV.out HF.out).mono ?_
  rintro e w2 ⟨rfl, rfl⟩
  go_wp2_with fail
  refine (lawfew_false pv p w1 HPV.out HF2.out).mono ?_
  rintro e w2 ⟨rfl, rfl⟩
  go_wp2_with fail
  go_ret
  exact ⟨rfl, HB.out⟩

set_option maxHeartbeats 4000000 in
set_option maxRecDepth 100000 in
theorem w_long (v : Value) (l : List ByteArray) (i m n : Int) (root old s : ByteArray) (pv : Value) (p : List ByteArray) (w : World) (hv : IsTx w v l) (hpv : IsTx w pv p) (ht : HasTab w) (hf : Tr.few l = true) (hf2 : Tr.few p = true) (hlong : ¬ ((root.size : Int) ≤ 100 ∧ (old.size : Int) ≤ 100 ∧ (s.size : Int) ≤ 100)) :
    Calls Tryd.prog 3 #[v, .int .i64 i, .int .i64 m, .int .i64 n, .string root, .string old, .string s, pv] w fun e w' => e = .returned (.bool true) ∧ Below w.heap.size w w' := by
  have HB := Lib.hid (Below.refl w.heap.size w)
  have HT := Lib.hid ht
  have HV := Lib.hid hv
  have HPV := Lib.hid hpv
  clear ht hv hpv
  have HF := Lib.hid hf
  have HF2 := Lib.hid hf2
  clear hf hf2
  have hc : (100 : Int) < root.size ∨ (¬ (100 : Int) < root.size ∧ (100 : Int) < old.size) ∨ (¬ (100 : Int) < root.size ∧ ¬ (100 : Int) < old.size ∧ (100 : Int) < s.size) := by omega
  clear hlong
  rcases hc with g | ⟨g1, g2⟩ | ⟨g1, g2, g3⟩
  · go_enter Tryd.func3, Tryd.ntmps3
    go_wp2_with fail
    refine (head_walk w HT.out).mono ?_
    rintro e w1 ⟨rfl, hb⟩
    replace HB := Lib.hid (HB.out.trans (hb.mono HB.out.size))
    replace HT := Lib.hid (HT.out.below hb)
    replace HV := Lib.hid (HV.out.below hb)
    replace HPV := Lib.hid (HPV.out.below hb)
    clear hb
    go_wp2_with fail
    refine (lawfew_true v l w1 HV.out HF.out).mono ?_
    rintro e w2 ⟨rfl, rfl⟩
    go_wp2_with fail
    refine (lawfew_true pv p w1 HPV.out HF2.out).mono ?_
    rintro e w2 ⟨rfl, rfl⟩
    go_wp2_with fail
    go_ret
    exact ⟨rfl, HB.out⟩
  · go_enter Tryd.func3, Tryd.ntmps3
    go_wp2_with fail
    refine (head_walk w HT.out).mono ?_
    rintro e w1 ⟨rfl, hb⟩
    replace HB := Lib.hid (HB.out.trans (hb.mono HB.out.size))
    replace HT := Lib.hid (HT.out.below hb)
    replace HV := Lib.hid (HV.out.below hb)
    replace HPV := Lib.hid (HPV.out.below hb)
    clear hb
    go_wp2_with fail
    refine (lawfew_true v l w1 HV.out HF.out).mono ?_
    rintro e w2 ⟨rfl, rfl⟩
    go_wp2_with fail
    refine (lawfew_true pv p w1 HPV.out HF2.out).mono ?_
    rintro e w2 ⟨rfl, rfl⟩
    go_wp2_with fail
    go_ret
    exact ⟨rfl, HB.out⟩
  · go_enter Tryd.func3, Tryd.ntmps3
    go_wp2_with fail
    refine (head_walk w HT.out).mono ?_
    rintro e w1 ⟨rfl, hb⟩
    replace HB := Lib.hid (HB.out.trans (hb.mono HB.out.size))
    replace HT := Lib.hid (HT.out.below hb)
    replace HV := Lib.hid (HV.out.below hb)
    replace HPV := Lib.hid (HPV.out.below hb)
    clear hb
    go_wp2_with fail
    refine (lawfew_true v l w1 HV.out HF.out).mono ?_
    rintro e w2 ⟨rfl, rfl⟩
    go_wp2_with fail
    refine (lawfew_true pv p w1 HPV.out HF2.out).mono ?_
    rintro e w2 ⟨rfl, rfl⟩
    go_wp2_with fail
    go_ret
    exact ⟨rfl, HB.out⟩

set_option maxHeartbeats 4000000 in
set_option maxRecDepth 100000 in
theorem w_main (v : Value) (l : List ByteArray) (i m n : Int) (root old s : ByteArray) (pv : Value) (p : List ByteArray) (w : World) (hv : IsTx w v l) (hpv : IsTx w pv p) (ht : HasTab w) (hf : Tr.few l = true) (hf2 : Tr.few p = true) (hs1 : root.size ≤ 100) (hs2 : old.size ≤ 100) (hs3 : s.size ≤ 100) :
    Calls Tryd.prog 3 #[v, .int .i64 i, .int .i64 m, .int .i64 n, .string root, .string old, .string s, pv] w fun e w' => e = .returned (.bool true) ∧ Below w.heap.size w w' := by
  have HB := Lib.hid (Below.refl w.heap.size w)
  have HT := Lib.hid ht
  have HV := Lib.hid hv
  have HPV := Lib.hid hpv
  clear ht hv hpv
  have HF := Lib.hid hf
  have HF2 := Lib.hid hf2
  have HLS := Lib.hid (Tr.few_small hf)
  have HPS := Lib.hid (Tr.few_small hf2)
  obtain ⟨pp, pe, hP1, hP2⟩ := path_spec l HLS.out (Tr.few_len hf) i
  obtain ⟨lp, le, hL1, hL2⟩ := link_spec l HLS.out (Tr.few_len hf) m
  have HP1 := Lib.hid hP1
  have HP2 := Lib.hid hP2
  have HL1 := Lib.hid hL1
  have HL2 := Lib.hid hL2
  have g1 : ¬ (100 : Int) < root.size := by omega
  have g2 : ¬ (100 : Int) < old.size := by omega
  have g3 : ¬ (100 : Int) < s.size := by omega
  have hl20 := (Tr.few_out hf).1
  clear hf hf2 hP1 hP2 hL1 hL2
  have hv' := HV.out
  obtain ⟨a, cap, rfl, hv1, hv2, _⟩ := hv'
  go_enter Tryd.func3, Tryd.ntmps3
  go_wp2_with fail
  refine (head_walk w HT.out).mono ?_
  rintro e w1 ⟨rfl, hb⟩
  replace HB := Lib.hid (HB.out.trans (hb.mono HB.out.size))
  replace HT := Lib.hid (HT.out.below hb)
  replace HV := Lib.hid (HV.out.below hb)
  replace HPV := Lib.hid (HPV.out.below hb)
  clear hb
  go_wp2_with fail
  refine (lawfew_true (.slice a l.length cap) l w1 HV.out HF.out).mono ?_
  rintro e w2 ⟨rfl, rfl⟩
  go_wp2_with fail
  refine (lawfew_true pv p w1 HPV.out HF2.out).mono ?_
  rintro e w2 ⟨rfl, rfl⟩
  go_wp2_with fail
  refine (HP1.out _ _ HV.out HT.out).mono ?_
  rintro e w2 ⟨vp, lp1, rfl, htp, hpp, _, hb⟩
  replace HB := Lib.hid (HB.out.trans (hb.mono HB.out.size))
  replace HT := Lib.hid (HT.out.below hb)
  replace HV := Lib.hid (HV.out.below hb)
  replace HPV := Lib.hid (HPV.out.below hb)
  have HXp := Lib.hid htp
  clear htp
  clear hb
  go_wp2_with fail
  refine (HP2.out _ _ HV.out).mono ?_
  rintro e w3 ⟨vq, lq1, rfl, htq, hpq, _, hb⟩
  replace HB := Lib.hid (HB.out.trans (hb.mono HB.out.size))
  replace HT := Lib.hid (HT.out.below hb)
  replace HV := Lib.hid (HV.out.below hb)
  replace HPV := Lib.hid (HPV.out.below hb)
  replace HXp := Lib.hid (HXp.out.below hb)
  have HXq := Lib.hid htq
  clear htq
  clear hb
  go_wp2_with fail
  refine (HL1.out _ _ HV.out HT.out).mono ?_
  rintro e w4 ⟨vx, lx, rfl, htx, hpx, _, hb⟩
  replace HB := Lib.hid (HB.out.trans (hb.mono HB.out.size))
  replace HT := Lib.hid (HT.out.below hb)
  replace HV := Lib.hid (HV.out.below hb)
  replace HPV := Lib.hid (HPV.out.below hb)
  replace HXp := Lib.hid (HXp.out.below hb)
  replace HXq := Lib.hid (HXq.out.below hb)
  have HXx := Lib.hid htx
  clear htx
  clear hb
  go_wp2_with fail
  refine (HL2.out _ _ HV.out).mono ?_
  rintro e w5 ⟨vy, ly, rfl, hty, hpy, _, hb⟩
  replace HB := Lib.hid (HB.out.trans (hb.mono HB.out.size))
  replace HT := Lib.hid (HT.out.below hb)
  replace HV := Lib.hid (HV.out.below hb)
  replace HPV := Lib.hid (HPV.out.below hb)
  replace HXp := Lib.hid (HXp.out.below hb)
  replace HXq := Lib.hid (HXq.out.below hb)
  replace HXx := Lib.hid (HXx.out.below hb)
  have HXy := Lib.hid hty
  clear hty
  clear hb
  go_wp2_with fail
  refine (root_walk l _ _ (Tr.few_len HF.out) HV.out HLS.out HT.out).mono ?_
  rintro e w6 ⟨r1, rfl, hr1, hzr1, hb⟩
  replace HB := Lib.hid (HB.out.trans (hb.mono HB.out.size))
  replace HT := Lib.hid (HT.out.below hb)
  replace HV := Lib.hid (HV.out.below hb)
  replace HPV := Lib.hid (HPV.out.below hb)
  replace HXp := Lib.hid (HXp.out.below hb)
  replace HXq := Lib.hid (HXq.out.below hb)
  replace HXx := Lib.hid (HXx.out.below hb)
  replace HXy := Lib.hid (HXy.out.below hb)
  clear hb
  go_wp2_with fail
  refine (refroot_walk l _ _ (Tr.few_len HF.out) HV.out HLS.out).mono ?_
  rintro e w7 ⟨r2, rfl, hr2, hzr2, hb⟩
  replace HB := Lib.hid (HB.out.trans (hb.mono HB.out.size))
  replace HT := Lib.hid (HT.out.below hb)
  replace HV := Lib.hid (HV.out.below hb)
  replace HPV := Lib.hid (HPV.out.below hb)
  replace HXp := Lib.hid (HXp.out.below hb)
  replace HXq := Lib.hid (HXq.out.below hb)
  replace HXx := Lib.hid (HXx.out.below hb)
  replace HXy := Lib.hid (HXy.out.below hb)
  have q1 := eq_yes hr1 hr2 rfl
  clear hb
  go_wp2_with fail
  refine (same_bs _ _ lp1 lq1 pp _ HXp.out HXq.out hpp hpq).mono ?_
  rintro e w8 ⟨rfl, hb⟩
  replace HB := Lib.hid (HB.out.trans (hb.mono HB.out.size))
  replace HT := Lib.hid (HT.out.below hb)
  replace HV := Lib.hid (HV.out.below hb)
  replace HPV := Lib.hid (HPV.out.below hb)
  replace HXp := Lib.hid (HXp.out.below hb)
  replace HXq := Lib.hid (HXq.out.below hb)
  replace HXx := Lib.hid (HXx.out.below hb)
  replace HXy := Lib.hid (HXy.out.below hb)
  clear hb
  go_wp2_with fail
  refine (same_bs _ _ lx ly lp _ HXx.out HXy.out hpx hpy).mono ?_
  rintro e w9 ⟨rfl, hb⟩
  replace HB := Lib.hid (HB.out.trans (hb.mono HB.out.size))
  replace HT := Lib.hid (HT.out.below hb)
  replace HV := Lib.hid (HV.out.below hb)
  replace HPV := Lib.hid (HPV.out.below hb)
  replace HXp := Lib.hid (HXp.out.below hb)
  replace HXq := Lib.hid (HXq.out.below hb)
  replace HXx := Lib.hid (HXx.out.below hb)
  replace HXy := Lib.hid (HXy.out.below hb)
  clear hb
  go_wp2_with fail
  refine (check_walk root s (by omega) n i pv p _ HT.out HPV.out HPS.out).mono ?_
  rintro e w10 ⟨rfl, hb⟩
  replace HB := Lib.hid (HB.out.trans (hb.mono HB.out.size))
  replace HT := Lib.hid (HT.out.below hb)
  replace HV := Lib.hid (HV.out.below hb)
  replace HPV := Lib.hid (HPV.out.below hb)
  replace HXp := Lib.hid (HXp.out.below hb)
  replace HXq := Lib.hid (HXq.out.below hb)
  replace HXx := Lib.hid (HXx.out.below hb)
  replace HXy := Lib.hid (HXy.out.below hb)
  clear hb
  go_wp2_with fail
  refine (refcheck_walk root s (by omega) n i pv p _ HPV.out HPS.out).mono ?_
  rintro e w11 ⟨rfl, hb⟩
  replace HB := Lib.hid (HB.out.trans (hb.mono HB.out.size))
  replace HT := Lib.hid (HT.out.below hb)
  replace HV := Lib.hid (HV.out.below hb)
  replace HPV := Lib.hid (HPV.out.below hb)
  replace HXp := Lib.hid (HXp.out.below hb)
  replace HXq := Lib.hid (HXq.out.below hb)
  replace HXx := Lib.hid (HXx.out.below hb)
  replace HXy := Lib.hid (HXy.out.below hb)
  clear hb
  go_wp2_with fail
  refine (root_walk l _ _ (Tr.few_len HF.out) HV.out HLS.out HT.out).mono ?_
  rintro e w12 ⟨r3, rfl, hr3, hzr3, hb⟩
  replace HB := Lib.hid (HB.out.trans (hb.mono HB.out.size))
  replace HT := Lib.hid (HT.out.below hb)
  replace HV := Lib.hid (HV.out.below hb)
  replace HPV := Lib.hid (HPV.out.below hb)
  replace HXp := Lib.hid (HXp.out.below hb)
  replace HXq := Lib.hid (HXq.out.below hb)
  replace HXx := Lib.hid (HXx.out.below hb)
  replace HXy := Lib.hid (HXy.out.below hb)
  clear hb
  go_wp2_with fail
  refine (check_walk r3 s (by omega) l.length i pv p _ HT.out HPV.out HPS.out).mono ?_
  rintro e w13 ⟨rfl, hb⟩
  replace HB := Lib.hid (HB.out.trans (hb.mono HB.out.size))
  replace HT := Lib.hid (HT.out.below hb)
  replace HV := Lib.hid (HV.out.below hb)
  replace HPV := Lib.hid (HPV.out.below hb)
  replace HXp := Lib.hid (HXp.out.below hb)
  replace HXq := Lib.hid (HXq.out.below hb)
  replace HXx := Lib.hid (HXx.out.below hb)
  replace HXy := Lib.hid (HXy.out.below hb)
  clear hb
  go_wp2_with fail
  refine (refroot_walk l _ _ (Tr.few_len HF.out) HV.out HLS.out).mono ?_
  rintro e w14 ⟨r4, rfl, hr4, hzr4, hb⟩
  replace HB := Lib.hid (HB.out.trans (hb.mono HB.out.size))
  replace HT := Lib.hid (HT.out.below hb)
  replace HV := Lib.hid (HV.out.below hb)
  replace HPV := Lib.hid (HPV.out.below hb)
  replace HXp := Lib.hid (HXp.out.below hb)
  replace HXq := Lib.hid (HXq.out.below hb)
  replace HXx := Lib.hid (HXx.out.below hb)
  replace HXy := Lib.hid (HXy.out.below hb)
  clear hb
  go_wp2_with fail
  refine (refcheck_walk r4 s (by omega) l.length i pv p _ HPV.out HPS.out).mono ?_
  rintro e w15 ⟨rfl, hb⟩
  replace HB := Lib.hid (HB.out.trans (hb.mono HB.out.size))
  replace HT := Lib.hid (HT.out.below hb)
  replace HV := Lib.hid (HV.out.below hb)
  replace HPV := Lib.hid (HPV.out.below hb)
  replace HXp := Lib.hid (HXp.out.below hb)
  replace HXq := Lib.hid (HXq.out.below hb)
  replace HXx := Lib.hid (HXx.out.below hb)
  replace HXy := Lib.hid (HXy.out.below hb)
  rw [hr3.out, hr4.out]
  clear hb
  go_wp2_with fail
  refine (ext_walk old root m n pv p _ HT.out HPV.out (by omega) (by omega) HPS.out).mono ?_
  rintro e w16 ⟨rfl, hb⟩
  replace HB := Lib.hid (HB.out.trans (hb.mono HB.out.size))
  replace HT := Lib.hid (HT.out.below hb)
  replace HV := Lib.hid (HV.out.below hb)
  replace HPV := Lib.hid (HPV.out.below hb)
  replace HXp := Lib.hid (HXp.out.below hb)
  replace HXq := Lib.hid (HXq.out.below hb)
  replace HXx := Lib.hid (HXx.out.below hb)
  replace HXy := Lib.hid (HXy.out.below hb)
  clear hb
  go_wp2_with fail
  refine (refext_walk old root m n pv p _ HPV.out (by omega) (by omega) HPS.out).mono ?_
  rintro e w17 ⟨rfl, hb⟩
  replace HB := Lib.hid (HB.out.trans (hb.mono HB.out.size))
  replace HT := Lib.hid (HT.out.below hb)
  replace HV := Lib.hid (HV.out.below hb)
  replace HPV := Lib.hid (HPV.out.below hb)
  replace HXp := Lib.hid (HXp.out.below hb)
  replace HXq := Lib.hid (HXq.out.below hb)
  replace HXx := Lib.hid (HXx.out.below hb)
  replace HXy := Lib.hid (HXy.out.below hb)
  clear hb
  go_wp2_with fail
  refine (root_walk l _ _ (Tr.few_len HF.out) HV.out HLS.out HT.out).mono ?_
  rintro e w18 ⟨r5, rfl, hr5, hzr5, hb⟩
  replace HB := Lib.hid (HB.out.trans (hb.mono HB.out.size))
  replace HT := Lib.hid (HT.out.below hb)
  replace HV := Lib.hid (HV.out.below hb)
  replace HPV := Lib.hid (HPV.out.below hb)
  replace HXp := Lib.hid (HXp.out.below hb)
  replace HXq := Lib.hid (HXq.out.below hb)
  replace HXx := Lib.hid (HXx.out.below hb)
  replace HXy := Lib.hid (HXy.out.below hb)
  clear hb
  go_wp2_with fail
  refine (ext_walk old r5 m l.length pv p _ HT.out HPV.out (by omega) (by omega) HPS.out).mono ?_
  rintro e w19 ⟨rfl, hb⟩
  replace HB := Lib.hid (HB.out.trans (hb.mono HB.out.size))
  replace HT := Lib.hid (HT.out.below hb)
  replace HV := Lib.hid (HV.out.below hb)
  replace HPV := Lib.hid (HPV.out.below hb)
  replace HXp := Lib.hid (HXp.out.below hb)
  replace HXq := Lib.hid (HXq.out.below hb)
  replace HXx := Lib.hid (HXx.out.below hb)
  replace HXy := Lib.hid (HXy.out.below hb)
  clear hb
  go_wp2_with fail
  refine (refroot_walk l _ _ (Tr.few_len HF.out) HV.out HLS.out).mono ?_
  rintro e w20 ⟨r6, rfl, hr6, hzr6, hb⟩
  replace HB := Lib.hid (HB.out.trans (hb.mono HB.out.size))
  replace HT := Lib.hid (HT.out.below hb)
  replace HV := Lib.hid (HV.out.below hb)
  replace HPV := Lib.hid (HPV.out.below hb)
  replace HXp := Lib.hid (HXp.out.below hb)
  replace HXq := Lib.hid (HXq.out.below hb)
  replace HXx := Lib.hid (HXx.out.below hb)
  replace HXy := Lib.hid (HXy.out.below hb)
  clear hb
  go_wp2_with fail
  refine (refext_walk old r6 m l.length pv p _ HPV.out (by omega) (by omega) HPS.out).mono ?_
  rintro e w21 ⟨rfl, hb⟩
  replace HB := Lib.hid (HB.out.trans (hb.mono HB.out.size))
  replace HT := Lib.hid (HT.out.below hb)
  replace HV := Lib.hid (HV.out.below hb)
  replace HPV := Lib.hid (HPV.out.below hb)
  replace HXp := Lib.hid (HXp.out.below hb)
  replace HXq := Lib.hid (HXq.out.below hb)
  replace HXx := Lib.hid (HXx.out.below hb)
  replace HXy := Lib.hid (HXy.out.below hb)
  rw [hr5.out, hr6.out]
  clear hb
  go_wp2_with fail
  go_ret
  exact ⟨rfl, HB.out⟩


theorem law_walk (v : Value) (l : List ByteArray) (i m n : Int) (root old s : ByteArray) (pv : Value) (p : List ByteArray) (w : World) (hv : IsTx w v l) (_h1 : ∀ s ∈ l, s.size ≤ 9223372036854775807)
    (_hi : -9223372036854775808 ≤ i) (_hi2 : i ≤ 9223372036854775807) (_hm : -9223372036854775808 ≤ m) (_hm2 : m ≤ 9223372036854775807) (_hn : -9223372036854775808 ≤ n) (_hn2 : n ≤ 9223372036854775807)
    (_hr : root.size ≤ 9223372036854775807) (_ho : old.size ≤ 9223372036854775807) (_hss : s.size ≤ 9223372036854775807) (hpv : IsTx w pv p) (_h2 : ∀ s ∈ p, s.size ≤ 9223372036854775807) (ht : HasTab w) :
    Calls Tryd.prog 3 #[v, .int .i64 i, .int .i64 m, .int .i64 n, .string root, .string old, .string s, pv] w fun e w' => e = .returned (.bool true) ∧ Below w.heap.size w w' := by
  cases hf : Tr.few l with
  | false => exact w_few1 v l i m n root old s pv p w hv hpv ht hf
  | true =>
    cases hf2 : Tr.few p with
    | false => exact w_few2 v l i m n root old s pv p w hv hpv ht hf hf2
    | true =>
      by_cases h : (root.size : Int) ≤ 100 ∧ (old.size : Int) ≤ 100 ∧ (s.size : Int) ≤ 100
      · exact w_main v l i m n root old s pv p w hv hpv ht hf hf2 (by omega) (by omega) (by omega)
      · exact w_long v l i m n root old s pv p w hv hpv ht hf hf2 h

/-- What the walk gives, for all arguments and every world that holds the tables. -/
theorem contract (H : Type) (enc : TypeId × Value → H) (W : World) (base : Nat) (args : Array Value) (ds gs : List (DataW H)) (before : List MemPlace)
    (hval : ∀ (j : Nat) t v, Tryd.f3.params[j]? = some t → args[j]? = some v → Value.okWide Tryd.prog W .any base t v)
    (hW : DataW.Whole enc Tryd.prog Tryd.f3.params.toList Rows.treeMatchesReferenceSpec.vars false W args.toList ds gs before) (hL : laidMetH Tryd.prog laidAll W) :
    Calls Tryd.prog 3 args W fun e W' => ∃ v, e = .returned v ∧ Rows.treeMatchesReferenceSpec.post enc Tryd.prog Tryd.f3 false true false false W args v W' := by
  have hW' := hW
  obtain ⟨p, q, hA0, hV, rfl, hfz, hnd⟩ := hW
  have hA : DataW.TrodAll enc Tryd.prog W 0 (fun _ => true) true Tryd.f3.params.toList args.toList ds p := hA0
  rw [Tryd.params3] at hA hval
  obtain ⟨v0, vs0, d0, ds0, p0, q0, hargs, rfl, rfl, h0, r0⟩ := trodAll_cons hA
  obtain ⟨v1, vs1, d1, ds1, p1, q1, rfl, rfl, rfl, h1, r1⟩ := trodAll_cons r0
  obtain ⟨v2, vs2, d2, ds2, p2, q2, rfl, rfl, rfl, h2, r2⟩ := trodAll_cons r1
  obtain ⟨v3, vs3, d3, ds3, p3, q3, rfl, rfl, rfl, h3, r3⟩ := trodAll_cons r2
  obtain ⟨v4, vs4, d4, ds4, p4, q4, rfl, rfl, rfl, h4, r4⟩ := trodAll_cons r3
  obtain ⟨v5, vs5, d5, ds5, p5, q5, rfl, rfl, rfl, h5, r5⟩ := trodAll_cons r4
  obtain ⟨v6, vs6, d6, ds6, p6, q6, rfl, rfl, rfl, h6, r6⟩ := trodAll_cons r5
  obtain ⟨v7, vs7, d7, ds7, p7, q7, rfl, rfl, rfl, h7, r7⟩ := trodAll_cons r6
  obtain ⟨rfl, rfl, rfl⟩ := trodAll_nil r7
  obtain rfl : args = #[v0, v1, v2, v3, v4, v5, v6, v7] := by cases args; simp_all
  obtain ⟨rfl, rfl⟩ := trodVars_none hV
  obtain ⟨l0, t0, s0⟩ := open_tx (hval 0 22 v0 rfl rfl) h0
  obtain ⟨z1, rfl, _, _, g1⟩ := open_int Tryd.underlying3 (hval 1 3 v1 rfl rfl) h1
  obtain ⟨z2, rfl, _, _, g2⟩ := open_int Tryd.underlying3 (hval 2 3 v2 rfl rfl) h2
  obtain ⟨z3, rfl, _, _, g3⟩ := open_int Tryd.underlying3 (hval 3 3 v3 rfl rfl) h3
  obtain ⟨a4, rfl, _, _, g4⟩ := open_string Tryd.underlying9 (hval 4 9 v4 rfl rfl) h4
  obtain ⟨a5, rfl, _, _, g5⟩ := open_string Tryd.underlying9 (hval 5 9 v5 rfl rfl) h5
  obtain ⟨a6, rfl, _, _, g6⟩ := open_string Tryd.underlying9 (hval 6 9 v6 rfl rfl) h6
  obtain ⟨l7, t7, s7⟩ := open_tx (hval 7 22 v7 rfl rfl) h7
  refine (law_walk v0 l0 z1 z2 z3 a4 a5 a6 v7 l7 W t0 s0 (bounds_i64 g1).1 (bounds_i64 g1).2 (bounds_i64 g2).1 (bounds_i64 g2).2 (bounds_i64 g3).1 (bounds_i64 g3).2 (le_of_max g4) (le_of_max g5) (le_of_max g6) t7 s7 (hasTab hL)).mono fun e W' ⟨he, hg⟩ => ?_
  subst he
  exact ⟨_, rfl, post_law rfl rfl rfl rfl rfl (by rw [Tryd.params3]; decide) hW' hg⟩

theorem laid_met (os : Os) : laidMet Tryd.prog Rows.treeMatchesReferenceRow.laid ((laidWorld os).forCall (fun _ _ => 0) ⟨#[], #[.slice none 0 0, .int .i64 0, .int .i64 0, .int .i64 0, .string ⟨#[]⟩, .string ⟨#[]⟩, .string ⟨#[]⟩, .slice none 0 0], []⟩).memory :=
  laidMet_of_run' 8 (by kernel_rfl) (by kernel_rfl)
theorem reads (os : Os) {H : Type} (enc : TypeId × Value → H) : ∃ places, DataW.whole enc Tryd.prog ((laidWorld os).forCall (fun _ _ => 0) ⟨#[], #[.slice none 0 0, .int .i64 0, .int .i64 0, .int .i64 0, .string ⟨#[]⟩, .string ⟨#[]⟩, .string ⟨#[]⟩, .slice none 0 0], []⟩).memory Tryd.f3.params.toList Rows.treeMatchesReferenceSpec.vars false #[Value.slice none 0 0, Value.int .i64 0, Value.int .i64 0, Value.int .i64 0, Value.string ⟨#[]⟩, Value.string ⟨#[]⟩, Value.string ⟨#[]⟩, Value.slice none 0 0].toList 8 = some ([.nil, .lit (.int .i64 0), .lit (.int .i64 0), .lit (.int .i64 0), .lit (.string []), .lit (.string []), .lit (.string []), .nil], [], places) :=
  ⟨[], by kernel_rfl⟩

set_option maxRecDepth 100000 in
theorem lifted (os : Os) (started : os.Started) (H : Type) (enc : TypeId × Value → H) (F : Stop.Interp) :
    ReturnsInHanded {} Tryd.checked os 3 .any ((OpenSpec.ofChange Rows.treeMatchesReferenceSpec).preRow enc Tryd.prog Tryd.f3 Rows.treeMatchesReferenceRow.domain false Rows.treeMatchesReferenceRow.laid) (((OpenSpec.ofChange Rows.treeMatchesReferenceSpec).at F).post enc Tryd.prog Tryd.f3 false true false false) := by
  obtain ⟨places, hx⟩ := reads os enc
  refine returnsInHanded_of_row (C := Tryd.checked) (s := OpenSpec.ofChange Rows.treeMatchesReferenceSpec) own started (by kernel_rfl) Tryd.func3
    (witness_row_at (enc := enc) (C := Tryd.checked) false (laidWorld os) #[.slice none 0 0, .int .i64 0, .int .i64 0, .int .i64 0, .string ⟨#[]⟩, .string ⟨#[]⟩, .string ⟨#[]⟩, .slice none 0 0] rfl (by kernel_rfl) (by kernel_rfl) (by kernel_rfl)
      (OpenSpec.preRow_of_cond 8 hx (by kernel_rfl) (fun k hk => by cases hk) (by kernel_rfl) (laid_met os))) ?_
  intro W base args ds gs before hval hW _ _ _ hL _ _
  exact contract H enc W base args ds gs before hval hW hL

theorem said : Rows.TreeMatchesReferenceSaid :=
  OpenClaim.holds_of_cond 3 Tryd.f3 rfl rfl rfl rfl rfl rfl rfl ⟨rfl, rfl, rfl, rfl, rfl⟩ rfl rfl rfl rfl rfl (by kernel_rfl) Tryd.func3 (by kernel_rfl)
    (of_decide_eq_true (by kernel_rfl)) (by unfold Func.isWrapper; first | (rw [if_pos (by decide +kernel)]; kernel_rfl) | (rw [if_neg (by decide +kernel)]; exact ⟨rfl, rfl⟩))
    (fun os started H enc _ F => by rw [OpenClaim.pre_eq_preRow]; exact lifted os started H enc F)

/-- No parameter wants a stand-in; the program's own looks are off: what the card asks. -/
theorem plain (f : FuncId) (fn : Func) (hf : Tryd.pinned.checked.prog.funcNamed "pandect/pandectlaw02.TreeMatchesReference" = some f) (hfn : Tryd.pinned.checked.prog.funcs[f]? = some fn) :
    false = Tryd.pinned.checked.prog.looks [] ∧ ∀ (j : Nat) t, fn.params[j]? = some t → Tryd.pinned.checked.prog.wantsStandIn t = false := by
  obtain rfl : f = 3 := Option.some.inj ((show Tryd.prog.funcNamed "pandect/pandectlaw02.TreeMatchesReference" = some 3 by kernel_rfl).symm.trans hf) |>.symm
  obtain rfl : fn = Tryd.f3 := (Option.some.inj (Tryd.func3.symm.trans hfn)).symm
  refine ⟨by kernel_rfl, fun j t ht => ?_⟩
  rw [Tryd.params3] at ht
  have hm := Array.mem_of_getElem? ht
  simp only [List.mem_toArray, List.mem_cons, List.not_mem_nil, or_false] at hm
  rcases hm with rfl | rfl | rfl | rfl | rfl | rfl | rfl | rfl
  · exact wants_texts
  · exact wants_int
  · exact wants_int
  · exact wants_int
  · exact wants_string
  · exact wants_string
  · exact wants_string
  · exact wants_texts

theorem card : Rows.TreeMatchesReferenceCardSaid :=
  Claim7.holds_tied_plain_at .later [] _ _ _ _ said (fun _ h => by cases h) (by kernel_rfl) (fun _ h => by cases h) treeMatchesReference_row_tie rfl ⟨rfl, rfl⟩ (by kernel_rfl) rfl plain (by kernel_rfl)
end Go.Proofs.YteeanbjaphjccaaDoor.treeMatchesReference
