/-
  The walk of fact.Fits.
-/
import Derived.Test.YtjcaingfeaaakaaFValid
import Derived.Deep.RegionHeld3
import Derived.Deep.QuietTactic
import Derived.BigQuiet
namespace Go.Proofs.Ytjcaingfeaaakaa
open Go.RowKit

def Fc.Old (w w' : World) : Prop := Below w.heap.size w w'
theorem Fc.Old.out {w w' : World} (h : Fc.Old w w') : Below w.heap.size w w' := h
theorem Fc.Old.of {w w' : World} (h : Below w.heap.size w w') : Fc.Old w w' := h
theorem Fc.Old.refl (w : World) : Fc.Old w w := Below.refl _ _
theorem Fc.Old.step {w w1 w2 : World} (hb : Below w1.heap.size w1 w2) (h : Fc.Old w w1) : Fc.Old w w2 := Below.trans h.out (hb.mono h.out.size)
theorem Fc.Old.alloc {w w1 : World} (o : Obj) (h : Fc.Old w w1) : Fc.Old w (w1.alloc o) := Below.alloc h.out h.out.size o
theorem Fc.Old.drew (w : World) : Fc.Old w w.drew := (Below.refl _ _).drew
theorem Fc.Old.cell {w w' : World} (h : Fc.Old w w') {g i : Nat} {v : Value} (hg : g < w.heap.size) (hc : w.cell? ⟨g, i, none⟩ = some v) : w'.cell? ⟨g, i, none⟩ = some v := (h.out.cell (p := ⟨g, i, none⟩) hg).trans hc

/-- What Fits says. -/
def Fc.Fit (l : List Fc.Fact) (c : List Int) : Prop := Fc.Valid l ∧ Fc.within l c = true
/-- The first values are within the bounds. -/
def Fc.WTo (l : List Fc.Fact) (c : List Int) (k : Nat) : Prop := ∀ j, j < k → ∀ f, l[j]? = some f → f.lo ≤ c.getD j 0 ∧ c.getD j 0 ≤ f.hi
theorem Fc.WTo.all {l : List Fc.Fact} {c : List Int} (hl : c.length = l.length) : Fc.WTo l c l.length ↔ Fc.within l c = true := by
  rw [Fc.within_get]
  constructor
  · intro h
    refine ⟨hl, fun i f x hf hx => ?_⟩
    have := h i (List.getElem?_eq_some_iff.1 hf).1 f hf
    rwa [List.getD_eq_getElem?_getD, hx] at this
  · rintro ⟨_, h⟩ j hj f hf
    have hx : c[j]? = some (c.getD j 0) := by
      rw [List.getD_eq_getElem?_getD, List.getElem?_eq_getElem (by omega)]; rfl
    exact h j f _ hf hx
theorem Fc.WTo.succ {l : List Fc.Fact} {c : List Int} {k : Nat} {f : Fc.Fact} {x : Int} (h : Fc.WTo l c k) (hf : l[k]? = some f) (hx : c.getD k 0 = x) (hb : f.lo ≤ x ∧ x ≤ f.hi) : Fc.WTo l c (k + 1) := by
  intro j hj g hg
  by_cases e : j = k
  · subst e
    rw [hf] at hg
    obtain rfl := Option.some.inj hg
    rw [hx]; exact hb
  · exact h j (by omega) g hg

set_option maxHeartbeats 4000000 in
set_option maxRecDepth 100000 in
theorem fits_walk (v u : Value) (l : List Fc.Fact) (m : List Int) (w : World) (hv : Fc.IsF w v l) (hu : Fc.IsN w u m) :
    Calls Try.prog 29 #[.agg #[v], u] w (Fc.Says (Fc.Fit l m) w) := by
  obtain ⟨P, hP⟩ : ∃ P : Prop, P = Fc.Fit l m := ⟨_, rfl⟩
  rw [← hP]
  have HV : Hid (∀ w', Below w.heap.size w w' → Fc.IsF w' v l) := fun w' hb => hv.below hb
  obtain ⟨a, c, g, o, rfl, hc1, hc2, hga, hcl⟩ := hv.any
  obtain ⟨a2, c2, g2, o2, rfl, hd1, hd2, hgb, hcm⟩ := hu.any
  have hga2 : 0 < l.length → a = some ⟨g, o, none⟩ ∧ g < w.heap.size := fun h => hga (by rintro rfl; simp at h)
  have hgb2 : 0 < m.length → a2 = some ⟨g2, o2, none⟩ ∧ g2 < w.heap.size := fun h => hgb (by rintro rfl; simp at h)
  have HC := Lib.hid hcl
  have HM := Lib.hid hcm
  have HG := Lib.hid hga2
  have HG2 := Lib.hid hgb2
  clear hv hu hcl hcm hga hgb hga2 hgb2
  by_cases hlen : m.length = l.length
  · have HP : Hid (P ↔ Fc.Valid l ∧ Fc.WTo l m l.length) := (by rw [hP, Fc.WTo.all hlen]; rfl : P ↔ Fc.Valid l ∧ Fc.WTo l m l.length)
    clear hP
    obtain ⟨n, hn⟩ : ∃ n, n = l.length := ⟨_, rfl⟩
    rw [hlen, ← hn] at HG2 HM hd1 ⊢
    rw [← hn] at hc1 HG HP HV
    have HL := Lib.hid hn
    have HB0 := Lib.hid (Boxed.start w (.slice a n c))
    have HVW := Lib.hid (fun w' hb => valid_walk _ l w' (HV.out w' hb))
    clear hlen hn HV
    by_cases hvl : Fc.Valid l
    · go_enter Try.func29, Try.ntmps29
      go_wp2_with fail
      refine (HVW.out _ HB0.out.below).mono ?_
      rintro e w1 ⟨⟨b, rfl, hb⟩, hb1⟩
      obtain rfl : b = true := hb.2 hvl
      have HX := HB0.out.next hb1
      have q1 := HX.cell
      have HB1 := Lib.hid HX
      clear HVW HB0 hb hb1 HX
      go_wp2_with fail
      go_loopw [21] (fun i wr => ∃ k : Nat, k ≤ n ∧ i = .int .i64 k ∧ Hid (Fc.WTo l m k) ∧ Hid (Boxed w (.slice a n c) wr)) (fun i _ => n - (intOf i).toNat)
      case atStart => exact ⟨0, Nat.zero_le _, rfl, fun j hj => absurd hj (by omega), HB1.out⟩
      case round =>
        obtain ⟨k, hk, rfl, hd, hbw⟩ := hrel
        by_cases hlt : k < n
        · have hki : (k : Int) < (n : Int) := by omega
          obtain ⟨f, hf⟩ : ∃ f, l[k]? = some f := ⟨_, List.getElem?_eq_getElem (by rw [← HL.out]; exact hlt)⟩
          obtain ⟨rfl, hg⟩ := HG.out (by omega)
          obtain ⟨rfl, hg2⟩ := HG2.out (by omega)
          obtain ⟨p0, p1, p2, p3⟩ := HC.out k f hf
          have p0 := (hbw.out.below.cell (p := ⟨g, o + k * 4, none⟩) hg).trans p0
          have p1 := (hbw.out.below.cell (p := ⟨g, o + k * 4 + 1, none⟩) hg).trans p1
          have p2 := (hbw.out.below.cell (p := ⟨g, o + k * 4 + 2, none⟩) hg).trans p2
          have p3 := (hbw.out.below.cell (p := ⟨g, o + k * 4 + 3, none⟩) hg).trans p3
          obtain ⟨x, hx⟩ : ∃ x, m.getD k 0 = x := ⟨_, rfl⟩
          have p4 := (hbw.out.below.cell (p := ⟨g2, o2 + k, none⟩) hg2).trans (HM.out k hlt)
          rw [hx] at p4
          have HD := Lib.hid (fun hb => hd.out.succ hf hx hb)
          have HK : Hid (P → f.lo ≤ x ∧ x ≤ f.hi) := fun h => by have := (HP.out.1 h).2 k hlt f hf; rwa [hx] at this
          obtain ⟨s, hs⟩ : ∃ s, s = Lx.str f.name := ⟨_, rfl⟩
          rw [← hs] at p0
          have hz := hbw.out.below.size
          have hg3 : g2 < wr.heap.size := by omega
          clear hf hx hd hs
          go_wp2_with fail
          obtain ⟨W, hW⟩ : ∃ W, W = wr.alloc (.cells #[.string s, .int .i64 f.kind, .int .i64 f.lo, .int .i64 f.hi] 52) := ⟨_, rfl⟩
          have hk0 : W.heap[wr.heap.size]? = some (.cells #[.string s, .int .i64 f.kind, .int .i64 f.lo, .int .i64 f.hi] 52 (0, 0)) := by rw [hW]; exact heap_alloc_new _ _
          have hbW : Below wr.heap.size wr W := by rw [hW]; exact (Below.refl _ _).alloc (Nat.le_refl _) _
          rw [← hW]
          have hlt0 : wr.heap.size < W.heap.size := (Array.getElem?_eq_some_iff.1 hk0).1
          have hlt2 : g2 < W.heap.size := by omega
          have r0 : ∀ w', Fc.Old W w' → w'.cell? ⟨wr.heap.size, 0, none⟩ = some (.string s) := fun w' h => h.cell hlt0 (Joins.cell_of_block hk0 0)
          have r1 : ∀ w', Fc.Old W w' → w'.cell? ⟨wr.heap.size, 1, none⟩ = some (.int .i64 f.kind) := fun w' h => h.cell hlt0 (Joins.cell_of_block hk0 1)
          have r2 : ∀ w', Fc.Old W w' → w'.cell? ⟨wr.heap.size, 2, none⟩ = some (.int .i64 f.lo) := fun w' h => h.cell hlt0 (Joins.cell_of_block hk0 2)
          have r3 : ∀ w', Fc.Old W w' → w'.cell? ⟨wr.heap.size, 3, none⟩ = some (.int .i64 f.hi) := fun w' h => h.cell hlt0 (Joins.cell_of_block hk0 3)
          have r4 : ∀ w', Fc.Old W w' → w'.cell? ⟨g2, o2 + k, none⟩ = some (.int .i64 x) := fun w' h => h.cell hlt2 ((hbW.cell (p := ⟨g2, o2 + k, none⟩) hg3).trans p4)
          have HXW := Lib.hid (hbw.out.next hbW)
          clear hW hk0 hbW p0 p1 p2 p3 p4 hz
          have HIV := Lib.hid (fun w' => isvalue_walk x s f.kind f.lo f.hi w')
          go_region_held3 (fun w' => Fc.Old W w') (first | exact Fc.Old.drew W | exact Fc.Old.step (by with_reducible assumption) (by with_reducible assumption) | with_reducible assumption) (first | (go_at_call 54; (with_reducible refine (HIV.out _).mono ?_); rintro e w5 ⟨⟨b5, rfl, hb5⟩, hbb5⟩))
          have hO : Fc.Old W w5 := by with_reducible assumption
          have HX5 := Lib.hid (HXW.out.next hO.out)
          cases b5 with
          | true =>
            have HDD := Lib.hid (HD.out (hb5.1 rfl))
            clear hb5 r0 r1 r2 r3 r4
            go_wp2_with fail
            go_roundw
            case rel => exact ⟨k + 1, by omega, by go_num, HDD, HX5.out⟩
            case measure => simp [intOf]; omega
          | false =>
            have hno : ¬ P := fun h => by have := hb5.2 (HK.out h); cases this
            clear hb5 r0 r1 r2 r3 r4
            go_wp2_with fail
            go_ret
            exact Fc.Says.no hno HX5.out.below
        · have hki : ¬ (k : Int) < (n : Int) := by omega
          have hyes : P := HP.out.2 ⟨hvl, by have := hd.out; rwa [show k = n by omega] at this⟩
          clear hd
          go_wp2_with fail
          go_ret
          exact Fc.Says.yes hyes hbw.out.below
    · have hno : ¬ P := fun h => hvl (HP.out.1 h).1
      go_enter Try.func29, Try.ntmps29
      go_wp2_with fail
      refine (HVW.out _ HB0.out.below).mono ?_
      rintro e w1 ⟨⟨b, rfl, hb⟩, hb1⟩
      obtain rfl : b = false := by cases b with | false => rfl | true => exact absurd (hb.1 rfl) hvl
      clear hb HVW
      go_wp2_with fail
      go_ret
      exact Fc.Says.no hno (HB0.out.next hb1).below
  · have hno : ¬ P := fun h => by
      rw [hP] at h
      exact hlen (Fc.within_len h.2)
    have HB0 := Lib.hid (Boxed.start w (.slice a l.length c))
    have hleni : ¬ ((m.length : Int) = (l.length : Int)) := by omega
    clear hlen hP
    go_enter Try.func29, Try.ntmps29
    go_wp2_with fail
    go_ret
    exact Fc.Says.no hno HB0.out.below
end Go.Proofs.Ytjcaingfeaaakaa
