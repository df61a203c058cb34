/-
  The walk of formula.Holds.
-/
import Derived.Test.YtjcaingfeaaakaaMHas
import Derived.Test.YtjcaingfeaaakaaMCheckW
namespace Go.Proofs.Ytjcaingfeaaakaa
open Go.RowKit

namespace Fm
/-- Whether a formula is well-formed for a domain: the first error, all terms being there. -/
abbrev formed (d : List Fc.Fact) (f : Fo) : Nat := check Fc.isNm (fs d) (fun _ => true) f
open Classical in
/-- What Holds says. -/
noncomputable def holdsB (d : List Fc.Fact) (c : List Int) (l : List T) (f : Fo) : Bool := decide (Fc.Fit d c ∧ formed d f = 0) && holds (val d c) (has l) f
theorem holdsB_yes {d : List Fc.Fact} {c : List Int} {l : List T} {f : Fo} (h1 : Fc.Fit d c) (h2 : formed d f = 0) : holdsB d c l f = holds (val d c) (has l) f := by
  unfold holdsB
  simp [h1, h2]
theorem holdsB_nofit {d : List Fc.Fact} {c : List Int} {l : List T} {f : Fo} (h1 : ¬ Fc.Fit d c) : holdsB d c l f = false := by
  unfold holdsB
  simp [h1]
theorem holdsB_bad {d : List Fc.Fact} {c : List Int} {l : List T} {f : Fo} (h1 : formed d f ≠ 0) : holdsB d c l f = false := by
  unfold holdsB
  simp [h1]
theorem check_errs {isN fs ts : T → Bool} {f : Fo} (h : check isN fs ts f = 0) : errs isN fs ts f = 0 := by
  rw [check_small] at h
  by_cases hs : small f = true
  · rwa [if_pos hs] at h
  · rw [if_neg hs] at h; cases h
end Fm

set_option maxHeartbeats 2000000 in
set_option maxRecDepth 100000 in
theorem holds_walk (f : Fm.Fo) (u v cv t : Value) (d : List Fc.Fact) (c : List Int) (l : List Fm.T) (w : World) (hat : Fm.At w f u) (hs : Fm.size f ≤ 4611686018427387900) (hd : Fc.IsF w v d) (hc : Fc.IsN w cv c) (ht : Fm.IsT w t l) :
    Calls Try.prog 25 #[Fm.fv f u, .agg #[v], cv, t] w fun e w' => e = .returned (.bool (Fm.holdsB d c l f)) ∧ Below w.heap.size w w' := by
  obtain ⟨ua, un, uc, hu⟩ : ∃ a n c, u = .slice a n c := by obtain ⟨a, c, e, _⟩ := hat.kidsAt.len; exact ⟨_, _, _, e⟩
  obtain ⟨va, vn, vc, hv⟩ : ∃ a n c, v = .slice a n c := by obtain ⟨a, c, e, _⟩ := hd.form; exact ⟨_, _, _, e⟩
  obtain ⟨ta, tn, tc, htt⟩ : ∃ a n c, t = .slice a n c := by obtain ⟨a, c, _, _, e, _⟩ := ht.any; exact ⟨_, _, _, e⟩
  obtain ⟨ca, cn, cc, hcv⟩ : ∃ a n c, cv = .slice a n c := by obtain ⟨a, c, _, _, e, _⟩ := hc.any; exact ⟨_, _, _, e⟩
  subst hu hv htt hcv
  obtain ⟨W2, hW2⟩ : ∃ W2, W2 = (w.alloc (.cells #[.int .i64 f.op, .string (Lx.str f.name), .int .i64 f.cmp, .int .i64 f.num, .slice ua un uc] 24)).alloc (.cells #[.slice va vn vc] 27) := ⟨_, rfl⟩
  have hb2 : Below w.heap.size w W2 := by rw [hW2]; exact ((Below.refl _ _).alloc (Nat.le_refl _) _).alloc (by simp) _
  have k0 : W2.heap[w.heap.size]? = some (.cells #[.int .i64 f.op, .string (Lx.str f.name), .int .i64 f.cmp, .int .i64 f.num, .slice ua un uc] 24 (0, 0)) := by rw [hW2]; exact Fm.blkK (heap_alloc_new _ _)
  have k1 : W2.heap[w.heap.size + 1]? = some (.cells #[.slice va vn vc] 27 (0, 0)) := by rw [hW2]; exact Fm.blk1 _ _ _
  have hl0 := (Array.getElem?_eq_some_iff.1 k0).1
  have hl1 := (Array.getElem?_eq_some_iff.1 k1).1
  obtain ⟨z, hz⟩ : ∃ z, z = Fm.holdsB d c l f := ⟨_, rfl⟩
  obtain ⟨P, hP⟩ : ∃ P : Prop, P = Fc.Fit d c := ⟨_, rfl⟩
  obtain ⟨q, hq⟩ : ∃ q, q = Fm.formed d f := ⟨_, rfl⟩
  rw [← hz]
  have HFit := Lib.hid (fits_walk _ _ d c W2 (hd.below hb2) (hc.below hb2))
  rw [← hP] at HFit
  have HFE : Hid (∀ W, Below W2.heap.size W2 W → Calls Try.prog 37 #[Fm.fv f (.slice ua un uc), .agg #[.slice va vn vc], .func (.func 49) #[] #[]] W fun e w' => e = .returned (.int .i64 (q : Nat)) ∧ Below W.heap.size W w') := fun W hW => by
    have hbW := hb2.trans (hW.mono hb2.size)
    rw [hq]
    exact first_walk f _ _ d 49 #[] (fun _ => true) W (hat.below hbW) hs (hd.below hbW) (enters_of Try.func49 (by kernel_rfl) rfl) (holds1_says W)
  have HZ1 : Hid (¬ P → z = false) := fun h => by rw [hz]; exact Fm.holdsB_nofit (by rwa [← hP])
  have HZ2 : Hid (q ≠ 0 → z = false) := fun h => by rw [hz]; exact Fm.holdsB_bad (by rwa [← hq])
  have HHas : Hid (P → q = 0 → ∀ W, Below W2.heap.size W2 W → Calls Try.prog 50 #[.agg #[.slice va vn vc, .slice ca cn cc, .slice ta tn tc], Fm.fv f (.slice ua un uc)] W fun e w' => e = .returned (.bool z) ∧ Below W.heap.size W w') := fun h1 h2 W hW => by
    have hbW := hb2.trans (hW.mono hb2.size)
    rw [hz, Fm.holdsB_yes (by rwa [← hP]) (by rwa [← hq])]
    refine has_walk (Fm.size f) d c l (fun _ => true) f _ _ _ _ W (Nat.le_refl _) (Fm.check_errs (show Fm.formed d f = 0 by rw [← hq]; exact h2)) (hat.below hbW) (hd.below hbW) (hc.below hbW) ?_ (ht.below hbW)
    rw [hP] at h1
    exact Fc.within_len h1.2
  have HB2 := Lib.hid hb2
  have HK : Hid (∀ W, Below W2.heap.size W2 W → W.heap[w.heap.size]? = some (.cells #[.int .i64 f.op, .string (Lx.str f.name), .int .i64 f.cmp, .int .i64 f.num, .slice ua un uc] 24 (0, 0)) ∧ W.heap[w.heap.size + 1]? = some (.cells #[.slice va vn vc] 27 (0, 0))) := fun W hW =>
    ⟨(hW.block _ hl0).trans k0, (hW.block _ hl1).trans k1⟩
  have r0 := Joins.cell_of_block k1 0
  clear hz hP hq hat hs hd hc ht hb2 k0 k1
  go_enter Try.func25, Try.ntmps25
  go_wp2_with fail
  rw [← hW2]
  refine HFit.out.mono ?_
  rintro e w3 ⟨⟨b, rfl, hb⟩, hb3⟩
  clear HFit r0 hW2
  have HX3 := Lib.hid hb3
  obtain ⟨k0, k1⟩ := HK.out w3 hb3
  clear hb3
  cases b with
  | false =>
    have hz := HZ1.out (fun h => by have := hb.2 h; cases this)
    subst hz
    clear hb HFE HZ1 HZ2 HHas HK
    go_wp2_with fail
    go_ret
    exact ⟨rfl, HB2.out.trans (HX3.out.mono HB2.out.size)⟩
  | true =>
    have hp := hb.1 rfl
    have HFE3 := Lib.hid (HFE.out w3 HX3.out)
    have HH := Lib.hid (HHas.out hp)
    have q0 := Joins.cell_of_block k0 0
    have q1 := Joins.cell_of_block k0 1
    have q2 := Joins.cell_of_block k0 2
    have q3 := Joins.cell_of_block k0 3
    have q4 := Joins.cell_of_block k0 4
    have q5 := Joins.cell_of_block k1 0
    clear hb HFE HHas hp HZ1 k0 k1
    go_wp2_with fail
    refine HFE3.out.mono ?_
    rintro e w4 ⟨rfl, hb4⟩
    have HX4 := Lib.hid (HX3.out.trans (hb4.mono HX3.out.size))
    clear hb4 HFE3 q0 q1 q2 q3 q4 q5
    obtain ⟨k0, k1⟩ := HK.out w4 HX4.out
    by_cases h0 : q = 0
    · subst h0
      have HHH := Lib.hid (HH.out rfl w4 HX4.out)
      have q0 := Joins.cell_of_block k0 0
      have q1 := Joins.cell_of_block k0 1
      have q2 := Joins.cell_of_block k0 2
      have q3 := Joins.cell_of_block k0 3
      have q4 := Joins.cell_of_block k0 4
      have q5 := Joins.cell_of_block k1 0
      clear HH HZ2 k0 k1 HK
      go_wp2_with fail
      refine HHH.out.mono ?_
      rintro e w5 ⟨rfl, hb5⟩
      have HX5 := Lib.hid (HX4.out.trans (hb5.mono HX4.out.size))
      clear hb5
      go_wp2_with fail
      go_ret
      exact ⟨rfl, HB2.out.trans (HX5.out.mono HB2.out.size)⟩
    · have hqi : (((q : Nat) : Int) != 0) = true := by rw [bne_iff_ne]; omega
      have hz := HZ2.out h0
      subst hz
      clear HH HZ2 k0 k1 HK h0
      go_wp2_with fail
      go_ret
      exact ⟨rfl, HB2.out.trans (HX4.out.mono HB2.out.size)⟩
end Go.Proofs.Ytjcaingfeaaakaa
