/-
  The walk of the law's fixed examples (stage 2): they hold.
-/
import Derived.Test.YteeanbjaphjccaaDoorTHeadMath
import Derived.Test.YteeanbjaphjccaaDoorTLinkFn
import Derived.Test.YteeanbjaphjccaaDoorTExtFn
import Derived.Test.YteeanbjaphjccaaDoorRSame
namespace Go.Proofs.YteeanbjaphjccaaDoor
open Go.RowKit

namespace Tr
theorem dig_node (a b : T) : Dg.isDigest (node a b) = true := Dg.sum_isDigest _
theorem dig_leaf (a : T) : Dg.isDigest (leaf a) = true := Dg.sum_isDigest _
theorem ex_check_yes : check (node (node la lb) lc) 3 2 [99] [node la lb] = true := by
  unfold check
  show (decide ((0 : Int) ≤ 2) && decide ((2 : Int) < 3) && decide ((3 : Int) ≤ 1000000) && [node la lb].all Dg.isDigest && decide ([node la lb].length = plen 3 2) && decide (up 3 2 (leaf [99]) [node la lb] = node (node la lb) lc)) = true
  rw [plen_32, up_32]; simp [dig_node, lc]
theorem ex_check_no : check (node (node la lb) lc) 3 2 [98] [node la lb] = false := by
  unfold check
  show (decide ((0 : Int) ≤ 2) && decide ((2 : Int) < 3) && decide ((3 : Int) ≤ 1000000) && [node la lb].all Dg.isDigest && decide ([node la lb].length = plen 3 2) && decide (up 3 2 (leaf [98]) [node la lb] = node (node la lb) lc)) = false
  rw [plen_32, up_32, decide_eq_false (p := node (node la lb) (leaf [98]) = _) last_differs]; simp
theorem ex_ext_yes : ext la 1 (node (node la lb) lc) 3 [lb, lc] = true := by
  unfold ext
  show (decide ((0 : Int) ≤ 1) && decide ((1 : Int) ≤ 3) && decide ((3 : Int) ≤ 1000000) && Dg.isDigest la && Dg.isDigest (node (node la lb) lc) && [lb, lc].all Dg.isDigest && (if (1 : Int) = 0 then _ else decide ([lb, lc].length = llen 3 1 true) && decide (both 3 1 true la [lb, lc] = (la, node (node la lb) lc)))) = true
  rw [llen_31, both_31, if_neg (by decide)]; simp [dig_node, la, lb, lc, dig_leaf]
theorem ex_ext_no : ext lb 1 (node (node la lb) lc) 3 [lb, lc] = false := by
  unfold ext
  show (decide ((0 : Int) ≤ 1) && decide ((1 : Int) ≤ 3) && decide ((3 : Int) ≤ 1000000) && Dg.isDigest lb && Dg.isDigest (node (node la lb) lc) && [lb, lc].all Dg.isDigest && (if (1 : Int) = 0 then _ else decide ([lb, lc].length = llen 3 1 true) && decide (both 3 1 true lb [lb, lc] = (lb, node (node la lb) lc)))) = false
  rw [llen_31, both_31, if_neg (by decide), decide_eq_false (p := (lb, node (node lb lb) lc) = _) (fun h => first_differs (congrArg Prod.snd h))]; simp
end Tr

/-- Two lists of texts are the same. -/
theorem same_true (v1 v2 : Value) (a b : List ByteArray) (w : World) (h1 : IsTx w v1 a) (h2 : IsTx w v2 b) (h : Tr.bs a = Tr.bs b) :
    Calls Tryd.prog 17 #[v1, v2] w fun e w' => e = .returned (.bool true) ∧ Below w.heap.size w w' := by
  have := same_walk v1 v2 a b w h1.texts h2.texts h1.len h2.len
  have e : Dg.same a b = true := decide_eq_true h
  rw [e] at this; exact this
theorem eq_yes {r s : ByteArray} {a b : List UInt8} (hr : Hid (r.data.toList = a)) (hs : Hid (s.data.toList = b)) (h : a = b) : (r.toList == s.toList) = true := eq_true hr hs h
theorem boolOut {b c : Bool} {w w' : World} {e : Ending} (h : BoolOut b w e w') (hb : b = c) : e = .returned (.bool c) ∧ Below w.heap.size w w' := by
  subst hb; exact h

set_option maxHeartbeats 4000000 in
set_option maxRecDepth 100000 in
theorem head_walk (w : World) (ht : HasTab w) :
    Calls Tryd.prog 9 #[] w fun e w' => e = .returned (.bool true) ∧ Below w.heap.size w w' := by
  have HB := Lib.hid (Below.refl w.heap.size w)
  have HT := Lib.hid ht
  clear ht
  go_enter Tryd.func9, Tryd.ntmps9
  go_wp2_with fail
  have ha := (Below.refl (w).heap.size (w)).alloc (Nat.le_refl _) (.cells #[.string ⟨#[97]⟩] 9)
  replace HB := Lib.hid (HB.out.trans (ha.mono HB.out.size))
  replace HT := Lib.hid (HT.out.below ha)
  refine (root_walk [⟨#[97]⟩] _ _ (by simp) (tx_one _ _) (Tr.all_one (by decide)) HT.out).mono ?_
  rintro e w1 ⟨ra, rfl, hra, hza, hb⟩
  replace HB := Lib.hid (HB.out.trans (hb.mono HB.out.size))
  replace HT := Lib.hid (HT.out.below hb)
  have HRa : Hid (ra.data.toList = Tr.la) := by (show _ = _; rw [hra.out]; exact Tr.root_one _)
  clear hra
  clear hb
  try clear ha
  go_wp2_with fail
  have ha := (Below.refl (w1).heap.size (w1)).alloc (Nat.le_refl _) (.cells #[.string ⟨#[98]⟩] 9)
  replace HB := Lib.hid (HB.out.trans (ha.mono HB.out.size))
  replace HT := Lib.hid (HT.out.below ha)
  refine (root_walk [⟨#[98]⟩] _ _ (by simp) (tx_one _ _) (Tr.all_one (by decide)) HT.out).mono ?_
  rintro e w2 ⟨rb, rfl, hrb, hzb, hb⟩
  replace HB := Lib.hid (HB.out.trans (hb.mono HB.out.size))
  replace HT := Lib.hid (HT.out.below hb)
  have HRb : Hid (rb.data.toList = Tr.lb) := by (show _ = _; rw [hrb.out]; exact Tr.root_one _)
  clear hrb
  clear hb
  try clear ha
  go_wp2_with fail
  have ha := (Below.refl (w2).heap.size (w2)).alloc (Nat.le_refl _) (.cells #[.string ⟨#[99]⟩] 9)
  replace HB := Lib.hid (HB.out.trans (ha.mono HB.out.size))
  replace HT := Lib.hid (HT.out.below ha)
  refine (root_walk [⟨#[99]⟩] _ _ (by simp) (tx_one _ _) (Tr.all_one (by decide)) HT.out).mono ?_
  rintro e w3 ⟨rc, rfl, hrc, hzc, hb⟩
  replace HB := Lib.hid (HB.out.trans (hb.mono HB.out.size))
  replace HT := Lib.hid (HT.out.below hb)
  have HRc : Hid (rc.data.toList = Tr.lc) := by (show _ = _; rw [hrc.out]; exact Tr.root_one _)
  clear hrc
  clear hb
  try clear ha
  go_wp2_with fail
  have ha := (Below.refl (w3).heap.size (w3)).alloc (Nat.le_refl _) (.cells #[.string ⟨#[97]⟩, .string ⟨#[98]⟩, .string ⟨#[99]⟩] 9)
  replace HB := Lib.hid (HB.out.trans (ha.mono HB.out.size))
  replace HT := Lib.hid (HT.out.below ha)
  have HL := Lib.hid (tx_three (w3) ⟨#[97]⟩ ⟨#[98]⟩ ⟨#[99]⟩)
  have hl3 : [(⟨#[97]⟩ : ByteArray), ⟨#[98]⟩, ⟨#[99]⟩].length = 3 := rfl
  have HLS : Hid (∀ s ∈ [(⟨#[97]⟩ : ByteArray), ⟨#[98]⟩, ⟨#[99]⟩], s.size ≤ 200) := Tr.all_three (by decide) (by decide) (by decide)
  have hbs : Tr.bs [(⟨#[97]⟩ : ByteArray), ⟨#[98]⟩, ⟨#[99]⟩] = Tr.abc := rfl
  refine (path_ok _ [⟨#[97]⟩, ⟨#[98]⟩, ⟨#[99]⟩] 2 _ HL.out HLS.out (by simp) (by simp) HT.out).mono ?_
  rintro e w4 ⟨vp, lp, rfl, htp, hpp, hzp, hb⟩
  replace HB := Lib.hid (HB.out.trans (hb.mono HB.out.size))
  replace HT := Lib.hid (HT.out.below hb)
  replace HL := Lib.hid (HL.out.below hb)
  have HPp : Hid (Tr.bs lp = [Tr.node Tr.la Tr.lb]) := by (show _ = _; rw [hpp.out]; exact Tr.path_abc2)
  have HXp := Lib.hid htp
  have HZp : Hid (∀ s ∈ lp, s.size ≤ 200) := fun s h => Nat.le_trans (hzp s h) (by omega)
  clear htp hpp hzp
  clear hb
  try clear ha
  go_wp2_with fail
  refine (path_ok _ [⟨#[97]⟩, ⟨#[98]⟩, ⟨#[99]⟩] 0 _ HL.out HLS.out (by simp) (by simp) HT.out).mono ?_
  rintro e w5 ⟨vq, lq, rfl, htq, hpq, hzq, hb⟩
  replace HB := Lib.hid (HB.out.trans (hb.mono HB.out.size))
  replace HT := Lib.hid (HT.out.below hb)
  replace HL := Lib.hid (HL.out.below hb)
  replace HXp := Lib.hid (HXp.out.below hb)
  have HPq : Hid (Tr.bs lq = [Tr.lb, Tr.lc]) := by (show _ = _; rw [hpq.out]; exact Tr.path_abc0)
  have HXq := Lib.hid htq
  have HZq : Hid (∀ s ∈ lq, s.size ≤ 200) := fun s h => Nat.le_trans (hzq s h) (by omega)
  clear htq hpq hzq
  clear hb
  try clear ha
  go_wp2_with fail
  refine (link_ok _ [⟨#[97]⟩, ⟨#[98]⟩, ⟨#[99]⟩] 2 _ HL.out HLS.out (by simp) (by simp) (by simp) HT.out).mono ?_
  rintro e w6 ⟨vm, lm, rfl, htm, hpm, hzm, hb⟩
  replace HB := Lib.hid (HB.out.trans (hb.mono HB.out.size))
  replace HT := Lib.hid (HT.out.below hb)
  replace HL := Lib.hid (HL.out.below hb)
  replace HXp := Lib.hid (HXp.out.below hb)
  replace HXq := Lib.hid (HXq.out.below hb)
  have HPm : Hid (Tr.bs lm = [Tr.lc]) := by (show _ = _; rw [hpm.out]; exact Tr.link_abc2)
  have HXm := Lib.hid htm
  have HZm : Hid (∀ s ∈ lm, s.size ≤ 200) := fun s h => Nat.le_trans (hzm s h) (by omega)
  clear htm hpm hzm
  clear hb
  try clear ha
  go_wp2_with fail
  refine (link_ok _ [⟨#[97]⟩, ⟨#[98]⟩, ⟨#[99]⟩] 1 _ HL.out HLS.out (by simp) (by simp) (by simp) HT.out).mono ?_
  rintro e w7 ⟨vn, ln, rfl, htn, hpn, hzn, hb⟩
  replace HB := Lib.hid (HB.out.trans (hb.mono HB.out.size))
  replace HT := Lib.hid (HT.out.below hb)
  replace HL := Lib.hid (HL.out.below hb)
  replace HXp := Lib.hid (HXp.out.below hb)
  replace HXq := Lib.hid (HXq.out.below hb)
  replace HXm := Lib.hid (HXm.out.below hb)
  have HPn : Hid (Tr.bs ln = [Tr.lb, Tr.lc]) := by (show _ = _; rw [hpn.out]; exact Tr.link_abc1)
  have HXn := Lib.hid htn
  have HZn : Hid (∀ s ∈ ln, s.size ≤ 200) := fun s h => Nat.le_trans (hzn s h) (by omega)
  clear htn hpn hzn
  clear hb
  try clear ha
  go_wp2_with fail
  refine (path_high _ [⟨#[97]⟩, ⟨#[98]⟩, ⟨#[99]⟩] 3 _ HL.out (by decide) (by simp)).mono ?_
  rintro e w8 ⟨vi, li, rfl, hti, hpi, hzi, hb⟩
  replace HB := Lib.hid (HB.out.trans (hb.mono HB.out.size))
  replace HT := Lib.hid (HT.out.below hb)
  replace HL := Lib.hid (HL.out.below hb)
  replace HXp := Lib.hid (HXp.out.below hb)
  replace HXq := Lib.hid (HXq.out.below hb)
  replace HXm := Lib.hid (HXm.out.below hb)
  replace HXn := Lib.hid (HXn.out.below hb)
  clear hti hpi hzi
  clear hb
  try clear ha
  go_wp2_with fail
  have ha := (Below.refl (w8).heap.size (w8)).alloc (Nat.le_refl _) (.cells #[.string ⟨#[110, 111, 100, 101]⟩, .string ra, .string rb] 9)
  replace HB := Lib.hid (HB.out.trans (ha.mono HB.out.size))
  replace HT := Lib.hid (HT.out.below ha)
  replace HL := Lib.hid (HL.out.below ha)
  replace HXp := Lib.hid (HXp.out.below ha)
  replace HXq := Lib.hid (HXq.out.below ha)
  replace HXm := Lib.hid (HXm.out.below ha)
  replace HXn := Lib.hid (HXn.out.below ha)
  refine (list_digs _ [⟨#[110, 111, 100, 101]⟩, ra, rb] _ (tx_three _ _ _ _).texts (Tr.all_three (by decide) (by omega) (by omega)) (by simp) HT.out).mono ?_
  rintro e w9 ⟨rab, rfl, hrab, hzab, hb⟩
  replace HB := Lib.hid (HB.out.trans (hb.mono HB.out.size))
  replace HT := Lib.hid (HT.out.below hb)
  replace HL := Lib.hid (HL.out.below hb)
  replace HXp := Lib.hid (HXp.out.below hb)
  replace HXq := Lib.hid (HXq.out.below hb)
  replace HXm := Lib.hid (HXm.out.below hb)
  replace HXn := Lib.hid (HXn.out.below hb)
  have HRab : Hid (rab.data.toList = Tr.node Tr.la Tr.lb) := by (show _ = _; rw [hrab.out, ← HRa.out, ← HRb.out]; rfl)
  clear hrab
  clear hb
  try clear ha
  go_wp2_with fail
  refine (root_walk [] (.slice none 0 0) _ (by simp) (IsTx.nil _) (by simp) HT.out).mono ?_
  rintro e w10 ⟨x1, rfl, hx1, hzx1, hb⟩
  replace HB := Lib.hid (HB.out.trans (hb.mono HB.out.size))
  replace HT := Lib.hid (HT.out.below hb)
  replace HL := Lib.hid (HL.out.below hb)
  replace HXp := Lib.hid (HXp.out.below hb)
  replace HXq := Lib.hid (HXq.out.below hb)
  replace HXm := Lib.hid (HXm.out.below hb)
  replace HXn := Lib.hid (HXn.out.below hb)
  clear hb
  try clear ha
  go_wp2_with fail
  have ha := (Below.refl (w10).heap.size (w10)).alloc (Nat.le_refl _) (.cells #[.string ⟨#[101, 109, 112, 116, 121]⟩] 9)
  replace HB := Lib.hid (HB.out.trans (ha.mono HB.out.size))
  replace HT := Lib.hid (HT.out.below ha)
  replace HL := Lib.hid (HL.out.below ha)
  replace HXp := Lib.hid (HXp.out.below ha)
  replace HXq := Lib.hid (HXq.out.below ha)
  replace HXm := Lib.hid (HXm.out.below ha)
  replace HXn := Lib.hid (HXn.out.below ha)
  refine (list_digs _ [⟨#[101, 109, 112, 116, 121]⟩] _ (tx_one _ _).texts (Tr.all_one (by decide)) (by simp) HT.out).mono ?_
  rintro e w11 ⟨x2, rfl, hx2, hzx2, hb⟩
  replace HB := Lib.hid (HB.out.trans (hb.mono HB.out.size))
  replace HT := Lib.hid (HT.out.below hb)
  replace HL := Lib.hid (HL.out.below hb)
  replace HXp := Lib.hid (HXp.out.below hb)
  replace HXq := Lib.hid (HXq.out.below hb)
  replace HXm := Lib.hid (HXm.out.below hb)
  replace HXn := Lib.hid (HXn.out.below hb)
  have q1 := eq_yes hx1 hx2 (by rw [Tr.root_empty]; rfl)
  clear hx1 hx2
  clear hb
  try clear ha
  go_wp2_with fail
  have ha := (Below.refl (w11).heap.size (w11)).alloc (Nat.le_refl _) (.cells #[.string ⟨#[108, 101, 97, 102]⟩, .string ⟨#[97]⟩] 9)
  replace HB := Lib.hid (HB.out.trans (ha.mono HB.out.size))
  replace HT := Lib.hid (HT.out.below ha)
  replace HL := Lib.hid (HL.out.below ha)
  replace HXp := Lib.hid (HXp.out.below ha)
  replace HXq := Lib.hid (HXq.out.below ha)
  replace HXm := Lib.hid (HXm.out.below ha)
  replace HXn := Lib.hid (HXn.out.below ha)
  refine (list_digs _ [⟨#[108, 101, 97, 102]⟩, ⟨#[97]⟩] _ (tx_two _ _ _).texts (Tr.all_two (by decide) (by decide)) (by simp) HT.out).mono ?_
  rintro e w12 ⟨x3, rfl, hx3, hzx3, hb⟩
  replace HB := Lib.hid (HB.out.trans (hb.mono HB.out.size))
  replace HT := Lib.hid (HT.out.below hb)
  replace HL := Lib.hid (HL.out.below hb)
  replace HXp := Lib.hid (HXp.out.below hb)
  replace HXq := Lib.hid (HXq.out.below hb)
  replace HXm := Lib.hid (HXm.out.below hb)
  replace HXn := Lib.hid (HXn.out.below hb)
  have q2 := eq_yes HRa hx3 rfl
  clear hx3
  clear hb
  try clear ha
  go_wp2_with fail
  refine (root_walk [⟨#[97]⟩, ⟨#[98]⟩, ⟨#[99]⟩] _ _ (by simp) HL.out HLS.out HT.out).mono ?_
  rintro e w13 ⟨y1, rfl, hy1, hzy1, hb⟩
  replace HB := Lib.hid (HB.out.trans (hb.mono HB.out.size))
  replace HT := Lib.hid (HT.out.below hb)
  replace HL := Lib.hid (HL.out.below hb)
  replace HXp := Lib.hid (HXp.out.below hb)
  replace HXq := Lib.hid (HXq.out.below hb)
  replace HXm := Lib.hid (HXm.out.below hb)
  replace HXn := Lib.hid (HXn.out.below hb)
  have Hy1 : Hid (y1.data.toList = Tr.node (Tr.node Tr.la Tr.lb) Tr.lc) := by (show _ = _; rw [hy1.out]; exact Tr.root_abc)
  clear hy1
  clear hb
  try clear ha
  go_wp2_with fail
  have ha := (Below.refl (w13).heap.size (w13)).alloc (Nat.le_refl _) (.cells #[.string ⟨#[110, 111, 100, 101]⟩, .string rab, .string rc] 9)
  replace HB := Lib.hid (HB.out.trans (ha.mono HB.out.size))
  replace HT := Lib.hid (HT.out.below ha)
  replace HL := Lib.hid (HL.out.below ha)
  replace HXp := Lib.hid (HXp.out.below ha)
  replace HXq := Lib.hid (HXq.out.below ha)
  replace HXm := Lib.hid (HXm.out.below ha)
  replace HXn := Lib.hid (HXn.out.below ha)
  refine (list_digs _ [⟨#[110, 111, 100, 101]⟩, rab, rc] _ (tx_three _ _ _ _).texts (Tr.all_three (by decide) (by omega) (by omega)) (by simp) HT.out).mono ?_
  rintro e w14 ⟨x4, rfl, hx4, hzx4, hb⟩
  replace HB := Lib.hid (HB.out.trans (hb.mono HB.out.size))
  replace HT := Lib.hid (HT.out.below hb)
  replace HL := Lib.hid (HL.out.below hb)
  replace HXp := Lib.hid (HXp.out.below hb)
  replace HXq := Lib.hid (HXq.out.below hb)
  replace HXm := Lib.hid (HXm.out.below hb)
  replace HXn := Lib.hid (HXn.out.below hb)
  have q3 := eq_yes Hy1 hx4 (by rw [← HRab.out, ← HRc.out]; rfl)
  clear hx4
  clear hb
  try clear ha
  go_wp2_with fail
  have ha := (Below.refl (w14).heap.size (w14)).alloc (Nat.le_refl _) (.cells #[.string rab] 9)
  replace HB := Lib.hid (HB.out.trans (ha.mono HB.out.size))
  replace HT := Lib.hid (HT.out.below ha)
  replace HL := Lib.hid (HL.out.below ha)
  replace HXp := Lib.hid (HXp.out.below ha)
  replace HXq := Lib.hid (HXq.out.below ha)
  replace HXm := Lib.hid (HXm.out.below ha)
  replace HXn := Lib.hid (HXn.out.below ha)
  refine (same_true _ _ lp [rab] _ HXp.out (tx_one _ _) (by rw [HPp.out, ← HRab.out]; rfl)).mono ?_
  rintro e w15 ⟨rfl, hb⟩
  replace HB := Lib.hid (HB.out.trans (hb.mono HB.out.size))
  replace HT := Lib.hid (HT.out.below hb)
  replace HL := Lib.hid (HL.out.below hb)
  replace HXp := Lib.hid (HXp.out.below hb)
  replace HXq := Lib.hid (HXq.out.below hb)
  replace HXm := Lib.hid (HXm.out.below hb)
  replace HXn := Lib.hid (HXn.out.below hb)
  clear hb
  try clear ha
  go_wp2_with fail
  have ha := (Below.refl (w15).heap.size (w15)).alloc (Nat.le_refl _) (.cells #[.string rb, .string rc] 9)
  replace HB := Lib.hid (HB.out.trans (ha.mono HB.out.size))
  replace HT := Lib.hid (HT.out.below ha)
  replace HL := Lib.hid (HL.out.below ha)
  replace HXp := Lib.hid (HXp.out.below ha)
  replace HXq := Lib.hid (HXq.out.below ha)
  replace HXm := Lib.hid (HXm.out.below ha)
  replace HXn := Lib.hid (HXn.out.below ha)
  refine (same_true _ _ lq [rb, rc] _ HXq.out (tx_two _ _ _) (by rw [HPq.out, ← HRb.out, ← HRc.out]; rfl)).mono ?_
  rintro e w16 ⟨rfl, hb⟩
  replace HB := Lib.hid (HB.out.trans (hb.mono HB.out.size))
  replace HT := Lib.hid (HT.out.below hb)
  replace HL := Lib.hid (HL.out.below hb)
  replace HXp := Lib.hid (HXp.out.below hb)
  replace HXq := Lib.hid (HXq.out.below hb)
  replace HXm := Lib.hid (HXm.out.below hb)
  replace HXn := Lib.hid (HXn.out.below hb)
  clear hb
  try clear ha
  go_wp2_with fail
  have ha := (Below.refl (w16).heap.size (w16)).alloc (Nat.le_refl _) (.cells #[.string rc] 9)
  replace HB := Lib.hid (HB.out.trans (ha.mono HB.out.size))
  replace HT := Lib.hid (HT.out.below ha)
  replace HL := Lib.hid (HL.out.below ha)
  replace HXp := Lib.hid (HXp.out.below ha)
  replace HXq := Lib.hid (HXq.out.below ha)
  replace HXm := Lib.hid (HXm.out.below ha)
  replace HXn := Lib.hid (HXn.out.below ha)
  refine (same_true _ _ lm [rc] _ HXm.out (tx_one _ _) (by rw [HPm.out, ← HRc.out]; rfl)).mono ?_
  rintro e w17 ⟨rfl, hb⟩
  replace HB := Lib.hid (HB.out.trans (hb.mono HB.out.size))
  replace HT := Lib.hid (HT.out.below hb)
  replace HL := Lib.hid (HL.out.below hb)
  replace HXp := Lib.hid (HXp.out.below hb)
  replace HXq := Lib.hid (HXq.out.below hb)
  replace HXm := Lib.hid (HXm.out.below hb)
  replace HXn := Lib.hid (HXn.out.below hb)
  clear hb
  try clear ha
  go_wp2_with fail
  have ha := (Below.refl (w17).heap.size (w17)).alloc (Nat.le_refl _) (.cells #[.string rb, .string rc] 9)
  replace HB := Lib.hid (HB.out.trans (ha.mono HB.out.size))
  replace HT := Lib.hid (HT.out.below ha)
  replace HL := Lib.hid (HL.out.below ha)
  replace HXp := Lib.hid (HXp.out.below ha)
  replace HXq := Lib.hid (HXq.out.below ha)
  replace HXm := Lib.hid (HXm.out.below ha)
  replace HXn := Lib.hid (HXn.out.below ha)
  refine (same_true _ _ ln [rb, rc] _ HXn.out (tx_two _ _ _) (by rw [HPn.out, ← HRb.out, ← HRc.out]; rfl)).mono ?_
  rintro e w18 ⟨rfl, hb⟩
  replace HB := Lib.hid (HB.out.trans (hb.mono HB.out.size))
  replace HT := Lib.hid (HT.out.below hb)
  replace HL := Lib.hid (HL.out.below hb)
  replace HXp := Lib.hid (HXp.out.below hb)
  replace HXq := Lib.hid (HXq.out.below hb)
  replace HXm := Lib.hid (HXm.out.below hb)
  replace HXn := Lib.hid (HXn.out.below hb)
  clear hb
  try clear ha
  go_wp2_with fail
  refine (root_walk [⟨#[97]⟩, ⟨#[98]⟩, ⟨#[99]⟩] _ _ (by simp) HL.out HLS.out HT.out).mono ?_
  rintro e w19 ⟨y2, rfl, hy2, hzy2, hb⟩
  replace HB := Lib.hid (HB.out.trans (hb.mono HB.out.size))
  replace HT := Lib.hid (HT.out.below hb)
  replace HL := Lib.hid (HL.out.below hb)
  replace HXp := Lib.hid (HXp.out.below hb)
  replace HXq := Lib.hid (HXq.out.below hb)
  replace HXm := Lib.hid (HXm.out.below hb)
  replace HXn := Lib.hid (HXn.out.below hb)
  have Hy2 : Hid (y2.data.toList = Tr.node (Tr.node Tr.la Tr.lb) Tr.lc) := by (show _ = _; rw [hy2.out]; exact Tr.root_abc)
  clear hy2
  clear hb
  try clear ha
  go_wp2_with fail
  refine ((check_walk y2 ⟨#[99]⟩ (by decide) 3 2 vp lp _ HT.out HXp.out HZp.out).mono fun _ _ h => boolOut (c := true) h (by rw [Hy2.out, HPp.out]; exact Tr.ex_check_yes)).mono ?_
  rintro e w20 ⟨rfl, hb⟩
  replace HB := Lib.hid (HB.out.trans (hb.mono HB.out.size))
  replace HT := Lib.hid (HT.out.below hb)
  replace HL := Lib.hid (HL.out.below hb)
  replace HXp := Lib.hid (HXp.out.below hb)
  replace HXq := Lib.hid (HXq.out.below hb)
  replace HXm := Lib.hid (HXm.out.below hb)
  replace HXn := Lib.hid (HXn.out.below hb)
  clear hb
  try clear ha
  go_wp2_with fail
  refine (root_walk [⟨#[97]⟩, ⟨#[98]⟩, ⟨#[99]⟩] _ _ (by simp) HL.out HLS.out HT.out).mono ?_
  rintro e w21 ⟨y3, rfl, hy3, hzy3, hb⟩
  replace HB := Lib.hid (HB.out.trans (hb.mono HB.out.size))
  replace HT := Lib.hid (HT.out.below hb)
  replace HL := Lib.hid (HL.out.below hb)
  replace HXp := Lib.hid (HXp.out.below hb)
  replace HXq := Lib.hid (HXq.out.below hb)
  replace HXm := Lib.hid (HXm.out.below hb)
  replace HXn := Lib.hid (HXn.out.below hb)
  have Hy3 : Hid (y3.data.toList = Tr.node (Tr.node Tr.la Tr.lb) Tr.lc) := by (show _ = _; rw [hy3.out]; exact Tr.root_abc)
  clear hy3
  clear hb
  try clear ha
  go_wp2_with fail
  refine ((check_walk y3 ⟨#[98]⟩ (by decide) 3 2 vp lp _ HT.out HXp.out HZp.out).mono fun _ _ h => boolOut (c := false) h (by rw [Hy3.out, HPp.out]; exact Tr.ex_check_no)).mono ?_
  rintro e w22 ⟨rfl, hb⟩
  replace HB := Lib.hid (HB.out.trans (hb.mono HB.out.size))
  replace HT := Lib.hid (HT.out.below hb)
  replace HL := Lib.hid (HL.out.below hb)
  replace HXp := Lib.hid (HXp.out.below hb)
  replace HXq := Lib.hid (HXq.out.below hb)
  replace HXm := Lib.hid (HXm.out.below hb)
  replace HXn := Lib.hid (HXn.out.below hb)
  clear hb
  try clear ha
  go_wp2_with fail
  refine (root_walk [⟨#[97]⟩, ⟨#[98]⟩, ⟨#[99]⟩] _ _ (by simp) HL.out HLS.out HT.out).mono ?_
  rintro e w23 ⟨y4, rfl, hy4, hzy4, hb⟩
  replace HB := Lib.hid (HB.out.trans (hb.mono HB.out.size))
  replace HT := Lib.hid (HT.out.below hb)
  replace HL := Lib.hid (HL.out.below hb)
  replace HXp := Lib.hid (HXp.out.below hb)
  replace HXq := Lib.hid (HXq.out.below hb)
  replace HXm := Lib.hid (HXm.out.below hb)
  replace HXn := Lib.hid (HXn.out.below hb)
  have Hy4 : Hid (y4.data.toList = Tr.node (Tr.node Tr.la Tr.lb) Tr.lc) := by (show _ = _; rw [hy4.out]; exact Tr.root_abc)
  clear hy4
  clear hb
  try clear ha
  go_wp2_with fail
  refine ((ext_walk ra y4 1 3 vn ln _ HT.out HXn.out (by omega) (by omega) HZn.out).mono fun _ _ h => boolOut (c := true) h (by rw [HRa.out, Hy4.out, HPn.out]; exact Tr.ex_ext_yes)).mono ?_
  rintro e w24 ⟨rfl, hb⟩
  replace HB := Lib.hid (HB.out.trans (hb.mono HB.out.size))
  replace HT := Lib.hid (HT.out.below hb)
  replace HL := Lib.hid (HL.out.below hb)
  replace HXp := Lib.hid (HXp.out.below hb)
  replace HXq := Lib.hid (HXq.out.below hb)
  replace HXm := Lib.hid (HXm.out.below hb)
  replace HXn := Lib.hid (HXn.out.below hb)
  clear hb
  try clear ha
  go_wp2_with fail
  refine (root_walk [⟨#[97]⟩, ⟨#[98]⟩, ⟨#[99]⟩] _ _ (by simp) HL.out HLS.out HT.out).mono ?_
  rintro e w25 ⟨y5, rfl, hy5, hzy5, hb⟩
  replace HB := Lib.hid (HB.out.trans (hb.mono HB.out.size))
  replace HT := Lib.hid (HT.out.below hb)
  replace HL := Lib.hid (HL.out.below hb)
  replace HXp := Lib.hid (HXp.out.below hb)
  replace HXq := Lib.hid (HXq.out.below hb)
  replace HXm := Lib.hid (HXm.out.below hb)
  replace HXn := Lib.hid (HXn.out.below hb)
  have Hy5 : Hid (y5.data.toList = Tr.node (Tr.node Tr.la Tr.lb) Tr.lc) := by (show _ = _; rw [hy5.out]; exact Tr.root_abc)
  clear hy5
  clear hb
  try clear ha
  go_wp2_with fail
  refine ((ext_walk rb y5 1 3 vn ln _ HT.out HXn.out (by omega) (by omega) HZn.out).mono fun _ _ h => boolOut (c := false) h (by rw [HRb.out, Hy5.out, HPn.out]; exact Tr.ex_ext_no)).mono ?_
  rintro e w26 ⟨rfl, hb⟩
  replace HB := Lib.hid (HB.out.trans (hb.mono HB.out.size))
  replace HT := Lib.hid (HT.out.below hb)
  replace HL := Lib.hid (HL.out.below hb)
  replace HXp := Lib.hid (HXp.out.below hb)
  replace HXq := Lib.hid (HXq.out.below hb)
  replace HXm := Lib.hid (HXm.out.below hb)
  replace HXn := Lib.hid (HXn.out.below hb)
  clear hb
  try clear ha
  go_wp2_with fail
  go_ret
  exact ⟨rfl, HB.out⟩
end Go.Proofs.YteeanbjaphjccaaDoor
