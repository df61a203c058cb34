import Derived.Test.YthhfcijgcpnfcaaDoorKLFrameS
import Derived.Test.YthhfcijgcpnfcaaDoorKSRefE
/-
  SealMatchesReference: for every secret, height, index, message, key and seal the call returns true and its arguments stay, where the three tables of the library hold what the program's text lays.
-/
namespace Go.Proofs.YthhfcijgcpnfcaaDoor.sealMatchesReference
open Go.ChangeShapes Go.WideShapes Go.ChangeAt Go.RowKit
open Go.WideMaps Go.WideElems
open Go.ChangeMaps (open_string shut_string)

set_option maxHeartbeats 4000000 in
set_option maxRecDepth 100000 in
theorem w_early (s : ByteArray) (h j : Int) (m pb : ByteArray) (v : Value) (i : Int) (ls lp : List ByteArray) (w : World) (hv : IsSeal w v i ls lp) (ht : HasTab w) (hs : Sl.short [s, m, pb] = false ∨ Sl.short [s, m, pb] = true ∧ Sl.few ls lp = false ∨ Sl.short [s, m, pb] = true ∧ Sl.few ls lp = true ∧ 3 < h ∧ h ≤ 8) :
    Calls Tryd.prog 3 #[.string s, .int .i64 h, .int .i64 j, .string m, .string pb, v] w fun e w' => e = .returned (.bool true) ∧ Below w.heap.size w w' := by
  obtain ⟨vs, vp, rfl, hx, hy⟩ := hv
  have hv : IsSeal w (.agg #[.int .i64 i, vs, vp]) i ls lp := ⟨vs, vp, rfl, hx, hy⟩
  obtain ⟨a1, c1, rfl, _, _, _⟩ := hx
  obtain ⟨a2, c2, rfl, _, _, _⟩ := hy
  obtain ⟨W, hW⟩ : ∃ W, W = w.alloc (.cells #[.int .i64 i, .slice a1 ls.length c1, .slice a2 lp.length c2] 24) := ⟨_, rfl⟩
  have hb1 : Below w.heap.size w W := by rw [hW]; exact (Below.refl w.heap.size w).alloc (Nat.le_refl _) _
  have hk : W.heap[w.heap.size]? = some (.cells #[.int .i64 i, .slice a1 ls.length c1, .slice a2 lp.length c2] 24 (0, 0)) := by rw [hW]; exact heap_alloc_new _ _
  have F : Hid (∀ w', Tr.Old W w' → w'.cell? ⟨w.heap.size, 0, none⟩ = some (.int .i64 i) ∧ w'.cell? ⟨w.heap.size, 1, none⟩ = some (.slice a1 ls.length c1) ∧ w'.cell? ⟨w.heap.size, 2, none⟩ = some (.slice a2 lp.length c2)) := fun w' h => seal_block h.out hk
  have HT := Lib.hid (ht.below hb1)
  have HV := Lib.hid (hv.below hb1)
  have HB := Lib.hid hb1
  have HS := Lib.hid hs
  clear hb1 ht hs hv hk
  go_enter Tryd.func3, Tryd.ntmps3
  go_wp2_with fail
  rw [← hW]
  clear hW
  refine (head_walk _ HT.out).mono ?_
  rintro e w1 ⟨rfl, hb⟩
  have HO : Hid (Tr.Old W w1) := hb
  obtain ⟨d0, d1, d2⟩ := F.out w1 HO.out
  clear hb
  go_wp2_with fail
  rcases HS.out with hs | hs
  · refine (short_false _ [s, m, pb] _ (tx_three _ _ _ _) hs).mono ?_
    rintro e w2 ⟨rfl, rfl⟩
    replace HO : Hid (Tr.Old W (w1.alloc (.cells #[.string s, .string m, .string pb] 9))) := Tr.Old.alloc _ HO.out
    clear d0 d1 d2 hs
    obtain ⟨d0, d1, d2⟩ := F.out _ HO.out
    go_wp2_with fail
    go_ret
    exact ⟨rfl, HB.out.trans (HO.out.out.mono HB.out.size)⟩
  refine (short_true _ [s, m, pb] _ (tx_three _ _ _ _) (by rcases hs with hs | hs <;> exact hs.1)).mono ?_
  rintro e w2 ⟨rfl, rfl⟩
  replace HO : Hid (Tr.Old W (w1.alloc (.cells #[.string s, .string m, .string pb] 9))) := Tr.Old.alloc _ HO.out
  clear d0 d1 d2 HS
  obtain ⟨d0, d1, d2⟩ := F.out _ HO.out
  rcases hs with ⟨_, hf⟩ | ⟨_, hf, h3, h8⟩
  · have HF := Lib.hid hf
    clear hf
    go_wp2_with fail
    refine (few03_false _ i ls lp _ (HV.out.below HO.out.out) HF.out).mono ?_
    rintro e w3 ⟨rfl, hb⟩
    replace HO : Hid (Tr.Old W w3) := Tr.Old.step hb HO.out
    clear hb d0 d1 d2
    go_wp2_with fail
    go_ret
    exact ⟨rfl, HB.out.trans (HO.out.out.mono HB.out.size)⟩
  · have HF := Lib.hid hf
    clear hf
    go_wp2_with fail
    refine (few03_true _ i ls lp _ (HV.out.below HO.out.out) HF.out).mono ?_
    rintro e w3 ⟨rfl, hb⟩
    replace HO : Hid (Tr.Old W w3) := Tr.Old.step hb HO.out
    clear hb d0 d1 d2
    go_wp2_with fail
    go_ret
    exact ⟨rfl, HB.out.trans (HO.out.out.mono HB.out.size)⟩

set_option maxHeartbeats 4000000 in
set_option maxRecDepth 100000 in
theorem w_main (s : ByteArray) (h j : Int) (m pb : ByteArray) (v : Value) (i : Int) (ls lp : List ByteArray) (w : World) (hv : IsSeal w v i ls lp) (ht : HasTab w) (hs : Sl.short [s, m, pb] = true) (hf : Sl.few ls lp = true) (hh : h ≤ 3 ∧ True ∨ ¬ h ≤ 3 ∧ 8 < h)
    (p : Tr.T) (er : Int) (ix : Int) (sg pt : List Tr.T) (es : Int)
    (hp1 : ∀ w', HasTab w' → Calls Tryd.prog 13 #[.string s, .int .i64 h] w' (PairOut p er w')) (hp2 : ∀ w', Calls Tryd.prog 14 #[.string s, .int .i64 h] w' (PairOut p er w'))
    (hg1 : ∀ w', HasTab w' → Calls Tryd.prog 15 #[.string s, .int .i64 h, .int .i64 j, .string m] w' (SealOut ix sg pt es w')) (hg2 : ∀ w', Calls Tryd.prog 16 #[.string s, .int .i64 h, .int .i64 j, .string m] w' (SealOut ix sg pt es w')) :
    Calls Tryd.prog 3 #[.string s, .int .i64 h, .int .i64 j, .string m, .string pb, v] w fun e w' => e = .returned (.bool true) ∧ Below w.heap.size w w' := by
  obtain ⟨vs, vp, rfl, hx, hy⟩ := hv
  have hv : IsSeal w (.agg #[.int .i64 i, vs, vp]) i ls lp := ⟨vs, vp, rfl, hx, hy⟩
  obtain ⟨a1, c1, rfl, _, _, _⟩ := hx
  obtain ⟨a2, c2, rfl, _, _, _⟩ := hy
  obtain ⟨W, hW⟩ : ∃ W, W = w.alloc (.cells #[.int .i64 i, .slice a1 ls.length c1, .slice a2 lp.length c2] 24) := ⟨_, rfl⟩
  have hb1 : Below w.heap.size w W := by rw [hW]; exact (Below.refl w.heap.size w).alloc (Nat.le_refl _) _
  have hk : W.heap[w.heap.size]? = some (.cells #[.int .i64 i, .slice a1 ls.length c1, .slice a2 lp.length c2] 24 (0, 0)) := by rw [hW]; exact heap_alloc_new _ _
  have F : Hid (∀ w', Tr.Old W w' → w'.cell? ⟨w.heap.size, 0, none⟩ = some (.int .i64 i) ∧ w'.cell? ⟨w.heap.size, 1, none⟩ = some (.slice a1 ls.length c1) ∧ w'.cell? ⟨w.heap.size, 2, none⟩ = some (.slice a2 lp.length c2)) := fun w' h => seal_block h.out hk
  have HT := Lib.hid (ht.below hb1)
  have HV := Lib.hid (hv.below hb1)
  have HB := Lib.hid hb1
  have HS := Lib.hid hs
  have HF := Lib.hid hf
  have HP1 := Lib.hid hp1
  have HP2 := Lib.hid hp2
  have HG1 := Lib.hid hg1
  have HG2 := Lib.hid hg2
  clear hb1 ht hs hv hk hf hp1 hp2 hg1 hg2
  rcases hh with ⟨h3, h8⟩ | ⟨h3, h8⟩
  all_goals
    go_enter Tryd.func3, Tryd.ntmps3
    go_wp2_with fail
    rw [← hW]
    clear hW
    refine (head_walk _ HT.out).mono ?_
    rintro e w1 ⟨rfl, hb⟩
    have HO : Hid (Tr.Old W w1) := hb
    obtain ⟨d0, d1, d2⟩ := F.out w1 HO.out
    clear hb
    go_wp2_with fail
    refine (short_true _ [s, m, pb] _ (tx_three _ _ _ _) HS.out).mono ?_
    rintro e w2 ⟨rfl, rfl⟩
    replace HO : Hid (Tr.Old W (w1.alloc (.cells #[.string s, .string m, .string pb] 9))) := Tr.Old.alloc _ HO.out
    clear d0 d1 d2
    obtain ⟨d0, d1, d2⟩ := F.out _ HO.out
    go_wp2_with fail
    refine (few03_true _ i ls lp _ (HV.out.below HO.out.out) HF.out).mono ?_
    rintro e w3 ⟨rfl, hb⟩
    replace HO : Hid (Tr.Old W w3) := Tr.Old.step hb HO.out
    clear hb d0 d1 d2
    go_wp2_with fail
    clear h3 h8
    refine (HP1.out _ (HT.out.below HO.out.out)).mono ?_
    rintro e w4 ⟨r1, rfl, hr1, hz1, hb⟩
    replace HO : Hid (Tr.Old W w4) := Tr.Old.step hb HO.out
    clear hb
    go_wp2_with fail
    refine (HP2.out _).mono ?_
    rintro e w5 ⟨r2, rfl, hr2, hz2, hb⟩
    obtain rfl : r2 = r1 := Dg.str_ext _ _ (hr2.out.trans hr1.out.symm)
    replace HO : Hid (Tr.Old W w5) := Tr.Old.step hb HO.out
    clear hb hr2 hr1 hz1 hz2
    go_wp2_with fail
    refine (HG1.out _ (HT.out.below HO.out.out)).mono ?_
    intro e w6 hso
    obtain ⟨b1, b2, e1, e2, l1, q1, rfl, u1, u2, u3, u4, u5, u6, hb⟩ := hso.seal
    obtain ⟨X, hX⟩ : ∃ X, X = w6.alloc (.cells #[.int .i64 ix, .slice b1 l1.length e1, .slice b2 q1.length e2] 24) := ⟨_, rfl⟩
    have hb6 : Below w6.heap.size w6 X := by rw [hX]; exact (Below.refl _ _).alloc (Nat.le_refl _) _
    have hk6 : X.heap[w6.heap.size]? = some (.cells #[.int .i64 ix, .slice b1 l1.length e1, .slice b2 q1.length e2] 24 (0, 0)) := by rw [hX]; exact heap_alloc_new _ _
    have HX : Hid (IsSeal X (.agg #[.int .i64 ix, .slice b1 l1.length e1, .slice b2 q1.length e2]) ix l1 q1) := ⟨_, _, rfl, u1.below hb6, u4.below hb6⟩
    have HK6 := Lib.hid hk6
    replace HO : Hid (Tr.Old W X) := Tr.Old.step hb6 (Tr.Old.step hb HO.out)
    have HE := Lib.hid (And.intro u2.out u5.out)
    clear hb hso u1 u2 u3 u4 u5 u6 hb6 hk6
    go_wp2_with fail
    rw [← hX]
    clear hX
    refine (HG2.out _).mono ?_
    intro e w7 hso
    obtain ⟨b3, b4, e3, e4, l2, q2, rfl, u1, u2, u3, u4, u5, u6, hb⟩ := hso.seal
    obtain ⟨Y, hY⟩ : ∃ Y, Y = w7.alloc (.cells #[.int .i64 ix, .slice b3 l2.length e3, .slice b4 q2.length e4] 24) := ⟨_, rfl⟩
    have hb7 : Below w7.heap.size w7 Y := by rw [hY]; exact (Below.refl _ _).alloc (Nat.le_refl _) _
    have hk7 : Y.heap[w7.heap.size]? = some (.cells #[.int .i64 ix, .slice b3 l2.length e3, .slice b4 q2.length e4] 24 (0, 0)) := by rw [hY]; exact heap_alloc_new _ _
    have HXY : Hid (Tr.Old X Y) := Tr.Old.step hb7 hb
    have HY : Hid (IsSeal Y (.agg #[.int .i64 ix, .slice b3 l2.length e3, .slice b4 q2.length e4]) ix l2 q2) := ⟨_, _, rfl, u1.below hb7, u4.below hb7⟩
    have F6 : Hid (∀ w', Tr.Old Y w' → w'.cell? ⟨w6.heap.size, 0, none⟩ = some (.int .i64 ix) ∧ w'.cell? ⟨w6.heap.size, 1, none⟩ = some (.slice b1 l1.length e1) ∧ w'.cell? ⟨w6.heap.size, 2, none⟩ = some (.slice b2 q1.length e2)) := fun w' h => seal_block (Tr.Old.step h.out HXY.out).out HK6.out
    have F7 : Hid (∀ w', Tr.Old Y w' → w'.cell? ⟨w7.heap.size, 0, none⟩ = some (.int .i64 ix) ∧ w'.cell? ⟨w7.heap.size, 1, none⟩ = some (.slice b3 l2.length e3) ∧ w'.cell? ⟨w7.heap.size, 2, none⟩ = some (.slice b4 q2.length e4)) := fun w' h => seal_block h.out hk7
    have HSM : Hid (Sl.same ix ix l1 q1 l2 q2 = true) := by
      show _ = _
      unfold Sl.same Dg.same
      rw [decide_eq_true rfl, decide_eq_true (show l1.map (·.data.toList) = l2.map (·.data.toList) from HE.out.1.trans u2.out.symm), decide_eq_true (show q1.map (·.data.toList) = q2.map (·.data.toList) from HE.out.2.trans u5.out.symm)]; rfl
    replace HO : Hid (Tr.Old W Y) := Tr.Old.step HXY.out.out HO.out
    have hsm := same03_walk _ _ ix ix l1 q1 l2 q2 Y (HX.out.below HXY.out.out) HY.out
    rw [HSM.out] at hsm
    have HSW := Lib.hid hsm
    obtain ⟨x0, x1, x2⟩ := F6.out Y (Tr.Old.refl Y)
    obtain ⟨y0, y1, y2⟩ := F7.out Y (Tr.Old.refl Y)
    clear hb hso u1 u2 u3 u4 u5 u6 hb7 hk7 hsm
    go_upto_region 8 with fail
    rw [← hY]
    clear hY
    go_wp2_with fail
    refine HSW.out.mono ?_
    rintro e w8 ⟨rfl, hb⟩
    replace HO : Hid (Tr.Old W w8) := Tr.Old.step hb HO.out
    clear hb x0 x1 x2 y0 y1 y2
    obtain ⟨d0, d1, d2⟩ := F.out w8 HO.out
    have hzm := Sl.short_out HS.out m (by simp)
    have HVA : Hid (∀ w' (q : ByteArray), Tr.Old w8 w' → Calls Tryd.prog 18 #[.string q, .string m, .agg #[.int .i64 i, .slice a1 ls.length c1, .slice a2 lp.length c2]] w' (BoolOut (Sl.verify q.data.toList m.data.toList i (Tr.bs ls) (Tr.bs lp)) w')) := fun w' q hw =>
      verify_walk q m hzm _ i ls lp w' (HV.out.below (HO.out.out.trans (hw.out.mono HO.out.out.size))) (fun s h => by have := (Sl.few_out HF.out).1 s h; omega) (fun s h => by have := (Sl.few_out HF.out).2.1 s h; omega) (HT.out.below (HO.out.out.trans (hw.out.mono HO.out.out.size)))
    have HVB : Hid (∀ w' (q : ByteArray), Tr.Old w8 w' → Calls Tryd.prog 19 #[.string q, .string m, .agg #[.int .i64 i, .slice a1 ls.length c1, .slice a2 lp.length c2]] w' (BoolOut (Sl.verify q.data.toList m.data.toList i (Tr.bs ls) (Tr.bs lp)) w')) := fun w' q hw =>
      refverify_walk q m hzm _ i ls lp w' (HV.out.below (HO.out.out.trans (hw.out.mono HO.out.out.size))) (fun s h => by have := (Sl.few_out HF.out).1 s h; omega) (fun s h => by have := (Sl.few_out HF.out).2.1 s h; omega)
    obtain ⟨k1, hk1⟩ : ∃ k1, k1 = Sl.verify pb.data.toList m.data.toList i (Tr.bs ls) (Tr.bs lp) := ⟨_, rfl⟩
    obtain ⟨k2, hk2⟩ : ∃ k2, k2 = Sl.verify r2.data.toList m.data.toList i (Tr.bs ls) (Tr.bs lp) := ⟨_, rfl⟩
    have HA1 : Hid (∀ w', Tr.Old w8 w' → Calls Tryd.prog 18 #[.string pb, .string m, .agg #[.int .i64 i, .slice a1 ls.length c1, .slice a2 lp.length c2]] w' (BoolOut k1 w')) := fun w' hw => by rw [hk1]; exact HVA.out w' pb hw
    have HB1 : Hid (∀ w', Tr.Old w8 w' → Calls Tryd.prog 19 #[.string pb, .string m, .agg #[.int .i64 i, .slice a1 ls.length c1, .slice a2 lp.length c2]] w' (BoolOut k1 w')) := fun w' hw => by rw [hk1]; exact HVB.out w' pb hw
    have HA2 : Hid (∀ w', Tr.Old w8 w' → Calls Tryd.prog 18 #[.string r2, .string m, .agg #[.int .i64 i, .slice a1 ls.length c1, .slice a2 lp.length c2]] w' (BoolOut k2 w')) := fun w' hw => by rw [hk2]; exact HVA.out w' r2 hw
    have HB2 : Hid (∀ w', Tr.Old w8 w' → Calls Tryd.prog 19 #[.string r2, .string m, .agg #[.int .i64 i, .slice a1 ls.length c1, .slice a2 lp.length c2]] w' (BoolOut k2 w')) := fun w' hw => by rw [hk2]; exact HVB.out w' r2 hw
    clear hk1 hk2 d0 d1 d2
    have y0 : ∀ w', Tr.Old w8 w' → w'.cell? ⟨w.heap.size, 0, none⟩ = some (.int .i64 i) := fun w' h => (F.out w' (HO.out.out.trans (h.out.mono HO.out.out.size))).1
    have y1 : ∀ w', Tr.Old w8 w' → w'.cell? ⟨w.heap.size, 1, none⟩ = some (.slice a1 ls.length c1) := fun w' h => (F.out w' (HO.out.out.trans (h.out.mono HO.out.out.size))).2.1
    have y2 : ∀ w', Tr.Old w8 w' → w'.cell? ⟨w.heap.size, 2, none⟩ = some (.slice a2 lp.length c2) := fun w' h => (F.out w' (HO.out.out.trans (h.out.mono HO.out.out.size))).2.2
    have hO8 : Tr.Old w8 w8.drew := Tr.Old.drew w8
    go_wp2_with fail
    go_region_held3 (fun w' => Tr.Old w8 w') (first | with_reducible assumption | exact Tr.Old.step (by with_reducible assumption) (by with_reducible assumption))
      (first
        | (go_at_call 18; (with_reducible refine (HA1.out _ (by with_reducible assumption)).mono ?_); rintro e wa ⟨rfl, hba⟩; have hOa : Tr.Old w8 wa := Tr.Old.step hba hO8)
        | (go_at_call 19; (with_reducible refine (HB1.out _ (by with_reducible assumption)).mono ?_); rintro e wb ⟨rfl, hbb⟩; have hOb : Tr.Old w8 wb := Tr.Old.step hbb hOa)
        | (go_at_call 18; (with_reducible refine (HA2.out _ (by with_reducible assumption)).mono ?_); rintro e wc ⟨rfl, hbc⟩; have hOc : Tr.Old w8 wc := Tr.Old.step hbc hOb)
        | (go_at_call 19; (with_reducible refine (HB2.out _ (by with_reducible assumption)).mono ?_); rintro e wd ⟨rfl, hbd⟩; have hOd : Tr.Old w8 wd := Tr.Old.step hbd hOc))
    have HO9 := Lib.hid hOd
    clear hba hbb hbc hbd hOa hOb hOc hOd hO8 y0 y1 y2
    go_wp2_with fail
    go_ret
    exact ⟨rfl, HB.out.trans ((HO.out.out.trans (HO9.out.out.mono HO.out.out.size)).mono HB.out.size)⟩

theorem law_walk (s : ByteArray) (h j : Int) (m pb : ByteArray) (v : Value) (i : Int) (ls lp : List ByteArray) (w : World) (_hs : s.size ≤ 9223372036854775807) (_a0 : -9223372036854775808 ≤ h) (_a1 : h ≤ 9223372036854775807) (_b0 : -9223372036854775808 ≤ j) (_b1 : j ≤ 9223372036854775807) (_hm : m.size ≤ 9223372036854775807) (_hp : pb.size ≤ 9223372036854775807) (hv : IsSeal w v i ls lp) (_hl : ∀ s ∈ ls, s.size ≤ 9223372036854775807) (_hq : ∀ s ∈ lp, s.size ≤ 9223372036854775807) (_h0 : -9223372036854775808 ≤ i) (_h1 : i ≤ 9223372036854775807) (ht : HasTab w) :
    Calls Tryd.prog 3 #[.string s, .int .i64 h, .int .i64 j, .string m, .string pb, v] w fun e w' => e = .returned (.bool true) ∧ Below w.heap.size w w' := by
  cases hs : Sl.short [s, m, pb] with
  | false => exact w_early s h j m pb v i ls lp w hv ht (.inl hs)
  | true =>
    cases hf : Sl.few ls lp with
    | false => exact w_early s h j m pb v i ls lp w hv ht (.inr (.inl ⟨hs, hf⟩))
    | true =>
      have hzs := Sl.short_out hs s (by simp)
      have hzm := Sl.short_out hs m (by simp)
      by_cases h38 : 3 < h ∧ h ≤ 8
      · exact w_early s h j m pb v i ls lp w hv ht (.inr (.inr ⟨hs, hf, h38.1, h38.2⟩))
      have hh : h ≤ 3 ∧ True ∨ ¬ h ≤ 3 ∧ 8 < h := by
        by_cases h3 : h ≤ 3
        · exact .inl ⟨h3, trivial⟩
        · exact .inr ⟨h3, by omega⟩
      by_cases hr : 0 ≤ h ∧ h ≤ 8
      · obtain ⟨n, rfl⟩ : ∃ n : Nat, h = (n : Int) := ⟨h.toNat, by omega⟩
        have hn : n ≤ 8 := by omega
        by_cases hj : 0 ≤ j ∧ j < ((2 ^ n : Nat) : Int)
        · obtain ⟨q, rfl⟩ : ∃ q : Nat, j = (q : Int) := ⟨j.toNat, by omega⟩
          have hq : q < 2 ^ n := by omega
          exact w_main s n q m pb v i ls lp w hv ht hs hf hh _ 0 _ _ _ 0 (fun w' ht' => public_ok s hzs n hn w' ht') (fun w' => refpub_ok s hzs n hn w') (fun w' ht' => sign_ok s hzs n hn q hq m hzm w' ht') (fun w' => refsign_ok s hzs n hn q hq m hzm w')
        · exact w_main s n j m pb v i ls lp w hv ht hs hf hh _ 0 _ _ _ 1 (fun w' ht' => public_ok s hzs n hn w' ht') (fun w' => refpub_ok s hzs n hn w') (fun w' ht' => sign_bad s hzs n hn j hj m w' ht') (fun w' => refsign_bad s n hn j hj m w')
      · exact w_main s h j m pb v i ls lp w hv ht hs hf hh _ 1 _ _ _ 1 (fun w' _ => public_no s h hr w') (fun w' => refpub_no s h hr w') (fun w' _ => sign_no s h j m hr w') (fun w' => refsign_no s h j m hr w')

set_option maxRecDepth 100000 in
/-- What the walk gives, for all arguments and every world that holds the tables. -/
theorem contract (H : Type) (enc : TypeId × Value → H) (W : World) (base : Nat) (args : Array Value) (ds gs : List (DataW H)) (before : List MemPlace)
    (hval : ∀ (j : Nat) t v, Tryd.f3.params[j]? = some t → args[j]? = some v → Value.okWide Tryd.prog W .any base t v)
    (hW : DataW.Whole enc Tryd.prog Tryd.f3.params.toList Rows.sealMatchesReferenceSpec.vars false W args.toList ds gs before) (hL : laidMetH Tryd.prog laidAll W) :
    Calls Tryd.prog 3 args W fun e W' => ∃ v, e = .returned v ∧ Rows.sealMatchesReferenceSpec.post enc Tryd.prog Tryd.f3 false true false false W args v W' := by
  have hW' := hW
  obtain ⟨p, q, hA0, hV, rfl, hfz, hnd⟩ := hW
  have hA : DataW.TrodAll enc Tryd.prog W 0 (fun _ => true) true Tryd.f3.params.toList args.toList ds p := hA0
  rw [Tryd.params3] at hA hval
  obtain ⟨v0, vs0, d0, ds0, p0, q0, hargs, rfl, rfl, h0, r0⟩ := trodAll_cons hA
  obtain ⟨v1, vs1, d1, ds1, p1, q1, rfl, rfl, rfl, h1, r1⟩ := trodAll_cons r0
  obtain ⟨v2, vs2, d2, ds2, p2, q2, rfl, rfl, rfl, h2, r2⟩ := trodAll_cons r1
  obtain ⟨v3, vs3, d3, ds3, p3, q3, rfl, rfl, rfl, h3, r3⟩ := trodAll_cons r2
  obtain ⟨v4, vs4, d4, ds4, p4, q4, rfl, rfl, rfl, h4, r4⟩ := trodAll_cons r3
  obtain ⟨v5, vs5, d5, ds5, p5, q5, rfl, rfl, rfl, h5, r5⟩ := trodAll_cons r4
  obtain ⟨rfl, rfl, rfl⟩ := trodAll_nil r5
  obtain rfl : args = #[v0, v1, v2, v3, v4, v5] := by cases args; simp_all
  obtain ⟨rfl, rfl⟩ := trodVars_none hV
  obtain ⟨a0, rfl, _, _, g0⟩ := open_string Tryd.underlying9 (hval 0 9 v0 rfl rfl) h0
  obtain ⟨z1, rfl, _, _, g1⟩ := open_int Tryd.underlying3 (hval 1 3 v1 rfl rfl) h1
  obtain ⟨z2, rfl, _, _, g2⟩ := open_int Tryd.underlying3 (hval 2 3 v2 rfl rfl) h2
  obtain ⟨a3, rfl, _, _, g3⟩ := open_string Tryd.underlying9 (hval 3 9 v3 rfl rfl) h3
  obtain ⟨a4, rfl, _, _, g4⟩ := open_string Tryd.underlying9 (hval 4 9 v4 rfl rfl) h4
  obtain ⟨i5, l5, m5, t5, s5, u5, x5, y5⟩ := open_seal (hval 5 24 v5 rfl rfl) h5
  refine (law_walk a0 z1 z2 a3 a4 v5 i5 l5 m5 W (le_of_max g0) (bounds_i64 g1).1 (bounds_i64 g1).2 (bounds_i64 g2).1 (bounds_i64 g2).2 (le_of_max g3) (le_of_max g4) t5 s5 u5 x5 y5 (hasTab hL)).mono fun e W' ⟨he, hg⟩ => ?_
  subst he
  exact ⟨_, rfl, post_lawS rfl rfl rfl rfl rfl (by rw [Tryd.params3]; decide) hW' hg⟩

theorem laid_met (os : Os) : laidMet Tryd.prog Rows.sealMatchesReferenceRow.laid ((laidWorld os).forCall (fun _ _ => 0) ⟨#[], #[.string ⟨#[]⟩, .int .i64 0, .int .i64 0, .string ⟨#[]⟩, .string ⟨#[]⟩, .agg #[.int .i64 0, .slice none 0 0, .slice none 0 0]], []⟩).memory :=
  laidMet_of_run' 8 (by kernel_rfl) (by kernel_rfl)
theorem reads (os : Os) {H : Type} (enc : TypeId × Value → H) : ∃ places, DataW.whole enc Tryd.prog ((laidWorld os).forCall (fun _ _ => 0) ⟨#[], #[.string ⟨#[]⟩, .int .i64 0, .int .i64 0, .string ⟨#[]⟩, .string ⟨#[]⟩, .agg #[.int .i64 0, .slice none 0 0, .slice none 0 0]], []⟩).memory Tryd.f3.params.toList Rows.sealMatchesReferenceSpec.vars false #[Value.string ⟨#[]⟩, Value.int .i64 0, Value.int .i64 0, Value.string ⟨#[]⟩, Value.string ⟨#[]⟩, Value.agg #[.int .i64 0, .slice none 0 0, .slice none 0 0]].toList 8 = some ([.lit (.string []), .lit (.int .i64 0), .lit (.int .i64 0), .lit (.string []), .lit (.string []), .agg [.lit (.int .i64 0), .nil, .nil]], [], places) :=
  ⟨[], by kernel_rfl⟩

set_option maxRecDepth 100000 in
theorem lifted (os : Os) (started : os.Started) (H : Type) (enc : TypeId × Value → H) (F : Stop.Interp) :
    ReturnsInHanded {} Tryd.checked os 3 .any ((OpenSpec.ofChange Rows.sealMatchesReferenceSpec).preRow enc Tryd.prog Tryd.f3 Rows.sealMatchesReferenceRow.domain false Rows.sealMatchesReferenceRow.laid) (((OpenSpec.ofChange Rows.sealMatchesReferenceSpec).at F).post enc Tryd.prog Tryd.f3 false true false false) := by
  obtain ⟨places, hx⟩ := reads os enc
  refine returnsInHanded_of_row (C := Tryd.checked) (s := OpenSpec.ofChange Rows.sealMatchesReferenceSpec) own started (by kernel_rfl) Tryd.func3
    (witness_row_at (enc := enc) (C := Tryd.checked) false (laidWorld os) #[.string ⟨#[]⟩, .int .i64 0, .int .i64 0, .string ⟨#[]⟩, .string ⟨#[]⟩, .agg #[.int .i64 0, .slice none 0 0, .slice none 0 0]] rfl (by kernel_rfl) (by kernel_rfl) (by kernel_rfl)
      (OpenSpec.preRow_of_cond 8 hx (by kernel_rfl) (fun k hk => by cases hk) (by kernel_rfl) (laid_met os))) ?_
  intro W base args ds gs before hval hW _ _ _ hL _ _
  exact contract H enc W base args ds gs before hval hW hL

theorem said : Rows.SealMatchesReferenceSaid :=
  OpenClaim.holds_of_cond 3 Tryd.f3 rfl rfl rfl rfl rfl rfl rfl ⟨rfl, rfl, rfl, rfl, rfl⟩ rfl rfl rfl rfl rfl (by kernel_rfl) Tryd.func3 (by kernel_rfl)
    (of_decide_eq_true (by kernel_rfl)) (by unfold Func.isWrapper; first | (rw [if_pos (by decide +kernel)]; kernel_rfl) | (rw [if_neg (by decide +kernel)]; exact ⟨rfl, rfl⟩))
    (fun os started H enc _ F => by rw [OpenClaim.pre_eq_preRow]; exact lifted os started H enc F)

set_option maxRecDepth 100000 in
/-- No parameter wants a stand-in; the program's own looks are off: what the card asks. -/
theorem plain (f : FuncId) (fn : Func) (hf : Tryd.pinned.checked.prog.funcNamed "pandect/pandectlaw03.SealMatchesReference" = some f) (hfn : Tryd.pinned.checked.prog.funcs[f]? = some fn) :
    false = Tryd.pinned.checked.prog.looks [] ∧ ∀ (j : Nat) t, fn.params[j]? = some t → Tryd.pinned.checked.prog.wantsStandIn t = false := by
  obtain rfl : f = 3 := Option.some.inj ((show Tryd.prog.funcNamed "pandect/pandectlaw03.SealMatchesReference" = some 3 by kernel_rfl).symm.trans hf) |>.symm
  obtain rfl : fn = Tryd.f3 := (Option.some.inj (Tryd.func3.symm.trans hfn)).symm
  refine ⟨by kernel_rfl, fun j t ht => ?_⟩
  rw [Tryd.params3] at ht
  have hm := Array.mem_of_getElem? ht
  simp only [List.mem_toArray, List.mem_cons, List.not_mem_nil, or_false] at hm
  rcases hm with rfl | rfl | rfl | rfl | rfl | rfl
  · exact wants_string
  · exact wants_int
  · exact wants_int
  · exact wants_string
  · exact wants_string
  · exact wants_seal

theorem card : Rows.SealMatchesReferenceCardSaid :=
  Claim7.holds_tied_plain_at .later [] _ _ _ _ said (fun _ h => by cases h) (by kernel_rfl) (fun _ h => by cases h) sealMatchesReference_row_tie rfl ⟨rfl, rfl⟩ (by kernel_rfl) rfl plain (by kernel_rfl)
end Go.Proofs.YthhfcijgcpnfcaaDoor.sealMatchesReference
