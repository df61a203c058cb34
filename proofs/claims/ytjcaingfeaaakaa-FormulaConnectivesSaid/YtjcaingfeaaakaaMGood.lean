/-
  The walk of the law's good.
-/
import Derived.Test.YtjcaingfeaaakaaMHead
import Derived.Test.YtjcaingfeaaakaaMRefT
import Derived.Test.YtjcaingfeaaakaaMRefA
import Derived.Deep.RegionHeld3
import Derived.BigQuiet
namespace Go.Proofs.Ytjcaingfeaaakaa
open Go.RowKit

namespace Fm
/-- What good says. -/
def Good (f : Fo) (d : List Fc.Fact) (c : List Int) : Prop := Fc.Fit d c ∧ size f ≤ 60 ∧ depth f ≤ 16 ∧ check Fc.isNm (fs d) (has (tms f)) f = 0
theorem tms_sized {w : World} {f : Fo} {u : Value} (h : At w f u) : ∀ t ∈ tms f, t.length ≤ 9223372036854775807 := tmsL_sized (nds 1 f) [] (by simp) (at_names f u 1 h)
end Fm

theorem below_drewN' (w : World) (k : Nat) : Below w.heap.size w (w.drewN k) := ⟨rfl, rfl, rfl, Nat.le_refl _, fun _ _ => rfl⟩

set_option maxHeartbeats 8000000 in
set_option maxRecDepth 100000 in
theorem good_walk (f : Fm.Fo) (u v cv : Value) (d : List Fc.Fact) (c : List Int) (w : World) (hat : Fm.At w f u) (hd : Fc.IsF w v d) (hc : Fc.IsN w cv c) :
    Calls Try.prog 27 #[Fm.fv f u, .agg #[v], cv] w (Fc.Says (Fm.Good f d c) w) := by
  obtain ⟨P, hP⟩ : ∃ P : Prop, P = Fm.Good f d c := ⟨_, rfl⟩
  rw [← hP]
  obtain ⟨ua, un, uc, hu⟩ : ∃ a n c, u = .slice a n c := by obtain ⟨a, c, e, _⟩ := hat.kidsAt.len; exact ⟨_, _, _, e⟩
  obtain ⟨va, vn, vc, hv⟩ : ∃ a n c, v = .slice a n c := by obtain ⟨a, c, e, _⟩ := hd.form; exact ⟨_, _, _, e⟩
  obtain ⟨ca, cn, cc, hcv⟩ : ∃ a n c, cv = .slice a n c := by obtain ⟨a, c, _, _, e, _⟩ := hc.any; exact ⟨_, _, _, e⟩
  subst hu hv hcv
  obtain ⟨W2, hW2⟩ : ∃ W2, W2 = (w.alloc (.cells #[.int .i64 f.op, .string (Lx.str f.name), .int .i64 f.cmp, .int .i64 f.num, .slice ua un uc] 24)).alloc (.cells #[.slice va vn vc] 27) := ⟨_, rfl⟩
  have hb2 : Below w.heap.size w W2 := by rw [hW2]; exact ((Below.refl _ _).alloc (Nat.le_refl _) _).alloc (by simp) _
  have k0 : W2.heap[w.heap.size]? = some (.cells #[.int .i64 f.op, .string (Lx.str f.name), .int .i64 f.cmp, .int .i64 f.num, .slice ua un uc] 24 (0, 0)) := by rw [hW2]; exact Fm.blkK (heap_alloc_new _ _)
  have k1 : W2.heap[w.heap.size + 1]? = some (.cells #[.slice va vn vc] 27 (0, 0)) := by rw [hW2]; exact Fm.blk1 _ _ _
  have hl0 := (Array.getElem?_eq_some_iff.1 k0).1
  have hl1 := (Array.getElem?_eq_some_iff.1 k1).1
  have HQ : Hid (∀ w', Below W2.heap.size W2 w' → (w'.cell? ⟨w.heap.size, 0, none⟩ = some (.int .i64 f.op) ∧ w'.cell? ⟨w.heap.size, 1, none⟩ = some (.string (Lx.str f.name)) ∧ w'.cell? ⟨w.heap.size, 2, none⟩ = some (.int .i64 f.cmp) ∧ w'.cell? ⟨w.heap.size, 3, none⟩ = some (.int .i64 f.num) ∧ w'.cell? ⟨w.heap.size, 4, none⟩ = some (.slice ua un uc)) ∧ w'.cell? ⟨w.heap.size + 1, 0, none⟩ = some (.slice va vn vc)) := fun w' h =>
    ⟨⟨(h.cell (p := ⟨w.heap.size, 0, none⟩) hl0).trans (Joins.cell_of_block k0 0), (h.cell (p := ⟨w.heap.size, 1, none⟩) hl0).trans (Joins.cell_of_block k0 1), (h.cell (p := ⟨w.heap.size, 2, none⟩) hl0).trans (Joins.cell_of_block k0 2), (h.cell (p := ⟨w.heap.size, 3, none⟩) hl0).trans (Joins.cell_of_block k0 3), (h.cell (p := ⟨w.heap.size, 4, none⟩) hl0).trans (Joins.cell_of_block k0 4)⟩, (h.cell (p := ⟨w.heap.size + 1, 0, none⟩) hl1).trans (Joins.cell_of_block k1 0)⟩
  have HA : Hid (∀ w', Below W2.heap.size W2 w' → Fm.At w' f (.slice ua un uc) ∧ Fc.IsF w' (.slice va vn vc) d ∧ Fc.IsN w' (.slice ca cn cc) c ∧ Below w.heap.size w w') := fun w' h => by
    have hb := hb2.trans (h.mono hb2.size)
    exact ⟨hat.below hb, hd.below hb, hc.below hb, hb⟩
  have HS := Lib.hid (Fm.tms_sized hat)
  have HP : Hid (P ↔ Fc.Fit d c ∧ Fm.size f ≤ 60 ∧ Fm.depth f ≤ 16 ∧ Fm.check Fc.isNm (Fm.fs d) (Fm.has (Fm.tms f)) f = 0) := by rw [hP]; exact Iff.rfl
  obtain ⟨hq0, hq1⟩ := HQ.out W2 (Below.refl _ _)
  obtain ⟨f0, f1, f2, f3, f4⟩ := hq0
  have HSM := Lib.hid (small_walk f _ 300 W2 (by decide) (HA.out W2 (Below.refl _ _)).1)
  clear hat hd hc hb2 k0 k1 hl0 hl1 hP
  go_enter Try.func27, Try.ntmps27
  go_upto_region 1 with fail
  rw [← hW2]
  clear hW2
  go_wp2_with fail
  refine HSM.out.mono ?_
  rintro e w3 ⟨rfl, hb3⟩
  clear f0 f1 f2 f3 f4 hq1 HSM
  obtain ⟨⟨f0, f1, f2, f3, f4⟩, hq1⟩ := HQ.out w3 hb3
  by_cases hs300 : Fm.size f ≤ 300
  case neg =>
    have hno := Lib.hid (show ¬ P from fun hp => by have := (HP.out.1 hp).2.1; omega)
    have HF := Lib.hid (HA.out w3 hb3).2.2.2
    rw [decide_eq_false hs300]
    go_wp2_with fail
    go_ret
    exact Fc.Says.no hno.out HF.out
  rw [decide_eq_true hs300]
  go_wp2_with fail
  refine (valid_walk _ d w3 (HA.out w3 hb3).2.1).mono ?_
  intro e w4 h4
  by_cases hval : Fc.Valid d
  case neg =>
    obtain ⟨rfl, hb4⟩ := says_false hval h4
    have hno := Lib.hid (show ¬ P from fun hp => hval (HP.out.1 hp).1.1)
    have HF := Lib.hid (HA.out w4 (below_step hb4 hb3)).2.2.2
    clear h4 hb4 hval
    go_wp2_with fail
    go_ret
    exact Fc.Says.no hno.out HF.out
  obtain ⟨rfl, hb4⟩ := says_true hval h4
  have hb4 := below_step hb4 hb3
  clear f0 f1 f2 f3 f4 hq1 h4 hval hb3
  obtain ⟨⟨f0, f1, f2, f3, f4⟩, hq1⟩ := HQ.out w4 hb4
  go_wp2_with fail
  refine (fits_walk _ _ d c w4 (HA.out w4 hb4).2.1 (HA.out w4 hb4).2.2.1).mono ?_
  intro e w5 h5
  by_cases hfit : Fc.Fit d c
  case neg =>
    obtain ⟨rfl, hb5⟩ := says_false hfit h5
    have hno := Lib.hid (show ¬ P from fun hp => hfit (HP.out.1 hp).1)
    have HF := Lib.hid (HA.out w5 (below_step hb5 hb4)).2.2.2
    clear h5 hb5 hfit
    go_wp2_with fail
    go_ret
    exact Fc.Says.no hno.out HF.out
  obtain ⟨rfl, hb5⟩ := says_true hfit h5
  have hb5 := below_step hb5 hb4
  clear f0 f1 f2 f3 f4 hq1 h5 hb4
  obtain ⟨⟨f0, f1, f2, f3, f4⟩, hq1⟩ := HQ.out w5 hb5
  have HSZ := Lib.hid (size_walk f _ w5 (HA.out w5 hb5).1 (by omega))
  have HFIT := Lib.hid hfit
  clear hfit
  go_wp2_with fail
  refine HSZ.out.mono ?_
  rintro e w6 ⟨rfl, hb6⟩
  have hb6 := below_step hb6 hb5
  clear f0 f1 f2 f3 f4 hq1 HSZ hb5
  obtain ⟨n, hn⟩ : ∃ n, n = Fm.size f := ⟨_, rfl⟩
  obtain ⟨m, hm⟩ : ∃ n, n = Fm.depth f := ⟨_, rfl⟩
  obtain ⟨z, hz⟩ : ∃ n, n = Fm.check Fc.isNm (Fm.fs d) (Fm.has (Fm.tms f)) f := ⟨_, rfl⟩
  have HP2 : Hid (P ↔ n ≤ 60 ∧ m ≤ 16 ∧ z = 0) := by rw [hn, hm, hz]; exact ⟨fun h => (HP.out.1 h).2, fun h => HP.out.2 ⟨HFIT.out, h⟩⟩
  have HFAR : Hid (∀ w', Below w6.heap.size w6 w' → Below w.heap.size w w') := fun w' h => (HA.out w' (below_step h hb6)).2.2.2
  rw [← hn, ← hm]
  have f0 : ∀ w', Below w6.heap.size w6 w' → w'.cell? ⟨w.heap.size, 0, none⟩ = some (.int .i64 f.op) := fun w' h => (HQ.out w' (below_step h hb6)).1.1
  have f1 : ∀ w', Below w6.heap.size w6 w' → w'.cell? ⟨w.heap.size, 1, none⟩ = some (.string (Lx.str f.name)) := fun w' h => (HQ.out w' (below_step h hb6)).1.2.1
  have f2 : ∀ w', Below w6.heap.size w6 w' → w'.cell? ⟨w.heap.size, 2, none⟩ = some (.int .i64 f.cmp) := fun w' h => (HQ.out w' (below_step h hb6)).1.2.2.1
  have f3 : ∀ w', Below w6.heap.size w6 w' → w'.cell? ⟨w.heap.size, 3, none⟩ = some (.int .i64 f.num) := fun w' h => (HQ.out w' (below_step h hb6)).1.2.2.2.1
  have f4 : ∀ w', Below w6.heap.size w6 w' → w'.cell? ⟨w.heap.size, 4, none⟩ = some (.slice ua un uc) := fun w' h => (HQ.out w' (below_step h hb6)).1.2.2.2.2
  have d0 : ∀ w', Below w6.heap.size w6 w' → w'.cell? ⟨w.heap.size + 1, 0, none⟩ = some (.slice va vn vc) := fun w' h => (HQ.out w' (below_step h hb6)).2
  have HT : Hid (∀ w', Below w6.heap.size w6 w' → Calls Try.prog 18 #[.agg #[.int .i64 f.op, .string (Lx.str f.name), .int .i64 f.cmp, .int .i64 f.num, .slice ua un uc]] w' fun e w'' => (∃ a k c, e = .returned (.slice a k c) ∧ Fm.IsT w'' (.slice a k c) (Fm.tms f)) ∧ Below w'.heap.size w' w'') := fun w' h => (terms_walk f _ w' (HA.out w' (below_step h hb6)).1 (by omega)).mono fun e w'' h => by
    obtain ⟨⟨v, rfl, ho⟩, hb⟩ := h
    have ht := ho.isT HS.out
    obtain ⟨a, c, rfl⟩ := ho.form
    exact ⟨⟨a, _, c, rfl, ht⟩, hb⟩
  have HC : Hid (∀ w' a k c, Below w6.heap.size w6 w' → Fm.IsT w' (.slice a k c) (Fm.tms f) → Calls Try.prog 15 #[.agg #[.int .i64 f.op, .string (Lx.str f.name), .int .i64 f.cmp, .int .i64 f.num, .slice ua un uc], .agg #[.slice va vn vc], .slice a k c] w' fun e w'' => e = .returned (.int .i64 (z : Nat)) ∧ Below w'.heap.size w' w'') := fun w' a k c h ht => by
    rw [hz]
    exact check_walk f _ _ _ d _ w' (HA.out w' (below_step h hb6)).1 (by omega) (HA.out w' (below_step h hb6)).2.1 ht
  clear HQ HA HS HP hn hm hz hs300 hb6 HFIT
  go_upto_region 4 with fail
  by_cases h60 : n ≤ 60
  case neg =>
    have h60i : decide ((n : Int) ≤ 60) = false := by rw [decide_eq_false_iff_not]; omega
    have hno := Lib.hid (show ¬ P from fun hp => h60 (HP2.out.1 hp).1)
    go_quiet (fail)
    all_goals go_wp2_with fail
    all_goals go_ret
    exact Fc.Says.no hno.out (HFAR.out _ (below_drewN' w6 _))
  have h60i : decide ((n : Int) ≤ 60) = true := by rw [decide_eq_true_iff]; omega
  by_cases h16 : m ≤ 16
  case neg =>
    have h16i : decide ((m : Int) ≤ 16) = false := by rw [decide_eq_false_iff_not]; omega
    have hno := Lib.hid (show ¬ P from fun hp => h16 (HP2.out.1 hp).2.1)
    go_quiet (fail)
    all_goals go_wp2_with fail
    all_goals go_ret
    exact Fc.Says.no hno.out (HFAR.out _ (below_drewN' w6 _))
  have h16i : decide ((m : Int) ≤ 16) = true := by rw [decide_eq_true_iff]; omega
  by_cases hz0 : z = 0
  case neg =>
    have hz0i : ¬ (z : Int) = 0 := by omega
    have hzq : ((z : Int) == 0) = false := by rw [beq_eq_false_iff_ne]; exact hz0i
    have hno := Lib.hid (show ¬ P from fun hp => hz0 (HP2.out.1 hp).2.2)
    go_region_held3 (fun w' => Below w6.heap.size w6 w') (first | exact (Below.refl _ _).drew | exact Below.refl _ _ | with_reducible assumption | exact below_step (by with_reducible assumption) (by with_reducible assumption))
      (first
        | (go_at_call 18; (with_reducible refine (HT.out _ (by first | exact (Below.refl _ _).drew | with_reducible assumption)).mono ?_); rintro e v1 ⟨⟨ta, tk, tc, rfl, ht1⟩, hv1⟩; have s1 := below_step (W := w6) hv1 (by first | exact (Below.refl _ _).drew | with_reducible assumption))
        | (go_at_call 15; (with_reducible refine (HC.out _ _ _ _ (by with_reducible assumption) (by with_reducible assumption)).mono ?_); rintro e v2 ⟨rfl, hv2⟩; have s2 := below_step (W := w6) hv2 (by with_reducible assumption)))
    all_goals go_wp2_with fail
    all_goals go_ret
    exact Fc.Says.no hno.out (HFAR.out _ s2)
  have hyes := Lib.hid (HP2.out.2 ⟨h60, h16, hz0⟩)
  subst hz0
  go_region_held3 (fun w' => Below w6.heap.size w6 w') (first | exact (Below.refl _ _).drew | exact Below.refl _ _ | with_reducible assumption | exact below_step (by with_reducible assumption) (by with_reducible assumption))
    (first
      | (go_at_call 18; (with_reducible refine (HT.out _ (by first | exact (Below.refl _ _).drew | with_reducible assumption)).mono ?_); rintro e v1 ⟨⟨ta, tk, tc, rfl, ht1⟩, hv1⟩; have s1 := below_step (W := w6) hv1 (by first | exact (Below.refl _ _).drew | with_reducible assumption))
      | (go_at_call 15; (with_reducible refine (HC.out _ _ _ _ (by with_reducible assumption) (by with_reducible assumption)).mono ?_); rintro e v2 ⟨rfl, hv2⟩; have s2 := below_step (W := w6) hv2 (by with_reducible assumption)))
  all_goals go_wp2_with fail
  all_goals go_ret
  exact Fc.Says.yes hyes.out (HFAR.out _ s2)
end Go.Proofs.Ytjcaingfeaaakaa
