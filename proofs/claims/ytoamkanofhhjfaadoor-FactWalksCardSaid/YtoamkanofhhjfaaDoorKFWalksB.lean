import Derived.Test.YtoamkanofhhjfaaDoorKFHead
import Derived.Test.YtoamkanofhhjfaaDoorKFSame
/-
  FactWalks: what stands ahead of the law's proper part.
-/
namespace Go.Proofs.YtoamkanofhhjfaaDoor
open Go.RowKit

set_option maxHeartbeats 4000000 in
set_option maxRecDepth 100000 in
/-- Sizes that are too great, or a case that does not fit: the law says true. -/
theorem walks_out (v u x : Value) (d : List Fc.Fact) (l m : List Int) (w : World) (hv : Fc.IsF w v d) (hu : Fc.IsN w u l) (hx : Fc.IsN w x m) (ht : HasTab w)
    (hno : ¬ ((Fc.Few d 70 ∧ l.length ≤ 70) ∧ m.length ≤ 70 ∧ Fc.Fit d l ∧ Fc.Fit d m)) :
    Calls Tryd.prog 6 #[.agg #[v], u, x] w fun e w' => e = .returned (.bool true) ∧ Below w.heap.size w w' := by
  have HV : Hid (∀ w', Below w.heap.size w w' → Fc.IsF w' v d) := fun w' hb => hv.below hb
  have HU : Hid (∀ w', Below w.heap.size w w' → Fc.IsN w' u l) := fun w' hb => hu.below hb
  have HX : Hid (∀ w', Below w.heap.size w w' → Fc.IsN w' x m) := fun w' hb => hx.below hb
  obtain ⟨a, c, rfl, _, _⟩ := hv.form
  obtain ⟨a2, c2, _, _, rfl, _, _, h3, h4⟩ := hu.any
  obtain ⟨a3, c3, _, _, rfl, _, _, h5, h6⟩ := hx.any
  clear hv hu hx h3 h4 h5 h6
  obtain ⟨n, hn⟩ : ∃ n, n = d.length := ⟨_, rfl⟩
  obtain ⟨n2, hn2⟩ : ∃ n, n = l.length := ⟨_, rfl⟩
  obtain ⟨n3, hn3⟩ : ∃ n, n = m.length := ⟨_, rfl⟩
  rw [← hn] at HV ⊢
  rw [← hn2] at HU ⊢
  rw [← hn3] at HX ⊢
  have HN3 := Lib.hid hn3
  have HB0 := Lib.hid (Boxed.start w (.slice a n c))
  have HT0 := Lib.hid (ht.below HB0.out.below)
  clear hn hn2 hn3 ht
  have HNO := Lib.hid hno
  clear hno
  go_enter Tryd.func6, Tryd.ntmps6
  go_wp2_with fail
  refine (head_walk _ HT0.out).mono ?_
  rintro e w1 ⟨rfl, hb1⟩
  have hx1 := HB0.out.next hb1
  have q1 := hx1.cell
  have HX1 := Lib.hid hx1
  clear hb1 hx1 HB0 HT0
  go_wp2_with fail
  refine (few_walk _ _ d l w1 (HV.out _ HX1.out.below) (HU.out _ HX1.out.below)).mono ?_
  rintro e w2 ⟨⟨b, rfl, hb⟩, hb2⟩
  have hx2 := HX1.out.next hb2
  have q2 := hx2.cell
  have HX2 := Lib.hid hx2
  clear hb2 hx2 HX1 q1
  cases b with
  | false =>
    clear hb
    go_wp2_with fail
    go_ret
    exact ⟨rfl, HX2.out.below⟩
  | true =>
    have HF := Lib.hid (hb.1 rfl)
    clear hb
    by_cases h70 : n3 ≤ 70
    · have h70i : decide ((70 : Int) < (n3 : Int)) = false := decide_eq_false (by omega)
      have h70j : ¬ (70 : Int) < (n3 : Int) := by omega
      go_wp2_with fail
      refine (fits_walk _ _ d l w2 (HV.out _ HX2.out.below) (HU.out _ HX2.out.below)).mono ?_
      rintro e w3 ⟨⟨b, rfl, hb⟩, hb3⟩
      have hx3 := HX2.out.next hb3
      have q3 := hx3.cell
      have HX3 := Lib.hid hx3
      clear hb3 hx3 HX2 q2
      cases b with
      | false =>
        clear hb
        go_wp2_with fail
        go_ret
        exact ⟨rfl, HX3.out.below⟩
      | true =>
        have HF2 := Lib.hid (hb.1 rfl)
        clear hb
        go_wp2_with fail
        refine (fits_walk _ _ d m w3 (HV.out _ HX3.out.below) (HX.out _ HX3.out.below)).mono ?_
        rintro e w4 ⟨⟨b, rfl, hb⟩, hb4⟩
        have HX4 := Lib.hid (HX3.out.next hb4)
        obtain rfl : b = false := by
          cases b with
          | false => rfl
          | true => exact absurd ⟨HF.out, by rw [← HN3.out]; exact h70, HF2.out, hb.1 rfl⟩ HNO.out
        clear hb hb4 HX3 q3
        go_wp2_with fail
        go_ret
        exact ⟨rfl, HX4.out.below⟩
    · have h70i : decide ((70 : Int) < (n3 : Int)) = true := decide_eq_true (by omega)
      have h70j : (70 : Int) < (n3 : Int) := by omega
      go_wp2_with fail
      go_ret
      exact ⟨rfl, HX2.out.below⟩
end Go.Proofs.YtoamkanofhhjfaaDoor
/-
  FactWalks: the law's proper part.
-/
namespace Go.Proofs.YtoamkanofhhjfaaDoor
open Go.RowKit

namespace Fc
/-- The first values are the greatest. -/
def LastTo (d : List Fact) (l : List Int) (k : Nat) : Prop := ∀ j, j < k → l.getD j 0 = hiAt d j
theorem LastTo.succ {d : List Fact} {l : List Int} {k : Nat} (h : LastTo d l k) (e : l.getD k 0 = hiAt d k) : LastTo d l (k + 1) := fun j hj => by
  by_cases hk : j = k
  · subst hk; exact e
  · exact h j (by omega)
theorem last_iff : ∀ {d : List Fact} {l : List Int}, l.length = d.length → (last d l = true ↔ LastTo d l d.length)
  | [], [], _ => by simp [last, LastTo]
  | [], _ :: _, h => by simp at h
  | _ :: _, [], h => by simp at h
  | f :: d, x :: l, h => by
    have ih := last_iff (d := d) (l := l) (by simpa using h)
    rw [last, Bool.and_eq_true, decide_eq_true_iff, ih]
    constructor
    · rintro ⟨h1, h2⟩ j hj
      cases j with
      | zero => simpa [hiAt] using h1
      | succ j => have := h2 j (by simpa using hj); simpa [hiAt] using this
    · intro h1
      refine ⟨by simpa [hiAt] using h1 0 (by simp), fun j hj => ?_⟩
      have := h1 (j + 1) (by simpa using hj)
      simpa [hiAt] using this
end Fc

set_option maxHeartbeats 4000000 in
set_option maxRecDepth 100000 in
theorem walks_in (v u x : Value) (d : List Fc.Fact) (l m : List Int) (w : World) (hv : Fc.IsF w v d) (hu : Fc.IsN w u l) (hx : Fc.IsN w x m) (ht : HasTab w)
    (hyes : (Fc.Few d 70 ∧ l.length ≤ 70) ∧ m.length ≤ 70 ∧ Fc.Fit d l ∧ Fc.Fit d m) :
    Calls Tryd.prog 6 #[.agg #[v], u, x] w fun e w' => e = .returned (.bool true) ∧ Below w.heap.size w w' := by
  have HV : Hid (∀ w', Below w.heap.size w w' → Fc.IsF w' v d) := fun w' hb => hv.below hb
  have HU : Hid (∀ w', Below w.heap.size w w' → Fc.IsN w' u l) := fun w' hb => hu.below hb
  have HX : Hid (∀ w', Below w.heap.size w w' → Fc.IsN w' x m) := fun w' hb => hx.below hb
  obtain ⟨a, c, rfl, _, _⟩ := hv.form
  obtain ⟨a2, c2, _, _, rfl, _, _, h3, h4⟩ := hu.any
  obtain ⟨a3, c3, _, _, rfl, _, _, h5, h6⟩ := hx.any
  clear hv hu hx h3 h4 h5 h6
  obtain ⟨n, hn⟩ : ∃ n, n = d.length := ⟨_, rfl⟩
  obtain ⟨n2, hn2⟩ : ∃ n, n = l.length := ⟨_, rfl⟩
  obtain ⟨n3, hn3⟩ : ∃ n, n = m.length := ⟨_, rfl⟩
  rw [← hn] at HV ⊢
  rw [← hn2] at HU ⊢
  rw [← hn3] at HX ⊢
  have HN3 := Lib.hid hn3
  have HND := Lib.hid hn
  have HLM : Hid (l.length = m.length) := (by rw [Fc.within_len hyes.2.2.1.2, Fc.within_len hyes.2.2.2.2] : l.length = m.length)
  have HN2 := Lib.hid hn2
  have HLN : Hid (n2 = n) := (by rw [hn2, hn]; exact Fc.within_len hyes.2.2.1.2 : n2 = n)
  have HB0 := Lib.hid (Boxed.start w (.slice a n c))
  have HT0 := Lib.hid (ht.below HB0.out.below)
  clear hn hn2 hn3 ht
  have HY := Lib.hid hyes
  clear hyes
  go_enter Tryd.func6, Tryd.ntmps6
  go_wp2_with fail
  refine (head_walk _ HT0.out).mono ?_
  rintro e w1 ⟨rfl, hb1⟩
  have hx1 := HB0.out.next hb1
  have q1 := hx1.cell
  have HX1 := Lib.hid hx1
  clear hb1 hx1 HB0 HT0
  go_wp2_with fail
  refine (few_walk _ _ d l w1 (HV.out _ HX1.out.below) (HU.out _ HX1.out.below)).mono ?_
  rintro e w2 ⟨⟨b, rfl, hb⟩, hb2⟩
  have hx2 := HX1.out.next hb2
  have q2 := hx2.cell
  have HX2 := Lib.hid hx2
  clear hb2 hx2 HX1 q1
  obtain rfl : b = true := hb.2 HY.out.1
  clear hb
  have h70 : n3 ≤ 70 := by rw [HN3.out]; exact HY.out.2.1
  have h70i : decide ((70 : Int) < (n3 : Int)) = false := decide_eq_false (by omega)
  have h70j : ¬ (70 : Int) < (n3 : Int) := by omega
  go_wp2_with fail
  refine (fits_walk _ _ d l w2 (HV.out _ HX2.out.below) (HU.out _ HX2.out.below)).mono ?_
  rintro e w3 ⟨⟨b, rfl, hb⟩, hb3⟩
  obtain rfl : b = true := hb.2 HY.out.2.2.1
  have hx3 := HX2.out.next hb3
  have q3 := hx3.cell
  have HX3 := Lib.hid hx3
  clear hb hb3 hx3 HX2 q2
  go_wp2_with fail
  refine (fits_walk _ _ d m w3 (HV.out _ HX3.out.below) (HX.out _ HX3.out.below)).mono ?_
  rintro e w4 ⟨⟨b, rfl, hb⟩, hb4⟩
  obtain rfl : b = true := hb.2 HY.out.2.2.2
  have hx4 := HX3.out.next hb4
  have q4 := hx4.cell
  have HX4 := Lib.hid hx4
  clear hb hb4 hx4 HX3 q3
  go_wp2_with fail
  refine (least_walk _ d w4 (HV.out _ HX4.out.below) HY.out.2.2.1.1).mono ?_
  rintro e w5 ⟨hb5, g5, rfl, ho5, _⟩
  have hlen5 : (Fc.least d).length = n := by rw [Fc.least_len]; exact HND.out.symm
  have HLE : Hid (∀ f ∈ d, f.lo ≤ f.hi) := fun f hf => (HY.out.2.2.1.1.1 f hf).le
  have hwl := Fc.least_within HLE.out
  rw [hlen5] at ho5 ⊢
  have HN5 : Hid (∀ w', Below w5.heap.size w5 w' → Fc.IsN w' (.slice (some ⟨g5, 0, none⟩) n n) (Fc.least d)) := fun w' hb => (ho5.isN (by have := HY.out.2.2.1.1.2.2; rw [← HND.out] at this; omega) (by intro y hy; have := Fc.within_bound HY.out.2.2.1.1 hwl y hy; omega)).below hb
  have hx5 := HX4.out.next hb5
  have q5 := hx5.cell
  have HX5 := Lib.hid hx5
  have HWL := Lib.hid (And.intro hwl hlen5)
  clear hb5 hx5 HX4 q4 ho5 hwl hlen5
  go_wp2_with fail
  refine (fits_walk _ _ d (Fc.least d) w5 (HV.out _ HX5.out.below) (HN5.out _ (Below.refl _ _))).mono ?_
  rintro e w6 ⟨⟨b, rfl, hb⟩, hb6⟩
  obtain rfl : b = true := hb.2 ⟨HY.out.2.2.1.1, HWL.out.1⟩
  have hx6 := HX5.out.next hb6
  have q6 := hx6.cell
  have HX6 := Lib.hid hx6
  have HN6 := Lib.hid (HN5.out w6 hb6)
  clear hb hb6 hx6 HX5 q5 HN5
  go_wp2_with fail
  refine (less_walk _ _ l (Fc.least d) w6 (HU.out _ HX6.out.below) HN6.out (by rw [HWL.out.2, ← HN2.out]; exact HLN.out)).mono ?_
  rintro e w7 ⟨⟨b, rfl, hb⟩, hb7⟩
  obtain rfl : b = false := by
    cases b with
    | false => rfl
    | true => have := hb.1 rfl; rw [Fc.not_less_least HY.out.2.2.1.2] at this; cases this
  have hx7 := HX6.out.next hb7
  have q7 := hx7.cell
  have HX7 := Lib.hid hx7
  clear hb hb7 hx7 HX6 q6 HN6
  go_wp2_with fail
  obtain rfl : n2 = n := HLN.out
  have hnb : n2 ≤ 60 := by have := HY.out.2.2.1.1.2.2; rw [← HND.out] at this; exact this
  go_loopw [9, 10] (fun b i wr => ∃ k : Nat, k ≤ n2 ∧ i = .int .i64 k ∧ (∃ bb : Bool, b = .bool bb ∧ Hid (bb = true ↔ Fc.LastTo d l k)) ∧ Hid (Boxed w (.slice a n2 c) wr)) (fun _ i _ => n2 - (intOf i).toNat)
  case atStart => exact ⟨0, Nat.zero_le _, rfl, ⟨true, rfl, ⟨fun _ j hj => absurd hj (by omega), fun _ => rfl⟩⟩, HX7⟩
  case round =>
    clear HX7 q7
    obtain ⟨k, hk, rfl, ⟨bb, rfl, hbb⟩, hbx⟩ := hrel
    have q8 := hbx.out.cell
    by_cases hlt : k < n2
    · have hki : (k : Int) < (n2 : Int) := by omega
      have hk0 : (0 : Int) ≤ (k : Int) := by omega
      cases bb with
      | false =>
        have hno : ¬ Fc.LastTo d l (k + 1) := fun h => by have := hbb.out.2 (fun j hj => h j (by omega)); cases this
        have HB1 : Hid (false = true ↔ Fc.LastTo d l (k + 1)) := (Iff.intro (fun h => absurd h (by decide)) (fun h => absurd h hno) : false = true ↔ Fc.LastTo d l (k + 1))
        have HX8 := Lib.hid (show Boxed w (.slice a n2 c) wr.drew from ⟨hbx.out.below.drew, hbx.out.cell, hbx.out.lt⟩)
        clear hno hbb
        go_upto_region 11 with fail
        go_region
        all_goals
          go_wp2_with fail
          go_roundw
          case rel => exact ⟨k + 1, by omega, by go_num, ⟨false, rfl, HB1⟩, HX8⟩
          case measure => simp [intOf]; omega
      | true =>
        have hxw := hbx.out.below.drew
        obtain ⟨f, hf⟩ : ∃ f, d[k]? = some f := ⟨_, List.getElem?_eq_getElem (by rw [← HND.out]; exact hlt)⟩
        obtain ⟨y, hy⟩ : ∃ y, l.getD k 0 = y := ⟨_, rfl⟩
        obtain ⟨_, _, g7, o7, hsl, _, _, hga7, hcl7⟩ := (HV.out wr.drew hxw).any
        obtain ⟨rfl, hg7⟩ := hga7 (by rintro rfl; simp at hf)
        injection hsl with hsl1 hsl2 hsl3
        subst hsl1
        obtain ⟨_, _, g8, o8, hsl, _, _, hga8, hcl8⟩ := (HU.out wr.drew hxw).any
        obtain ⟨rfl, hg8⟩ := hga8 (by rintro rfl; have := HN2.out; simp at this; omega)
        injection hsl with hsl1 hsl4 hsl5
        subst hsl1
        obtain ⟨_, _, _, p3⟩ := hcl7 k f hf
        have p5 := hcl8 k (by rw [← HN2.out]; exact hlt)
        rw [hy] at p5
        have hhi : Fc.hiAt d k = f.hi := by unfold Fc.hiAt; rw [List.getD_eq_getElem?_getD, hf]; rfl
        have q9 : wr.drew.cell? ⟨w.heap.size, 0, none⟩ = some (.slice (some ⟨g7, o7, none⟩) n2 c) := hbx.out.cell
        have HX8 := Lib.hid (show Boxed w (.slice (some ⟨g7, o7, none⟩) n2 c) wr.drew from ⟨hbx.out.below.drew, hbx.out.cell, hbx.out.lt⟩)
        have HK : Hid (∀ bb : Bool, (bb = true ↔ y = f.hi) → (bb = true ↔ Fc.LastTo d l (k + 1))) := (fun bb hb => by
          rw [hb]
          constructor
          · intro e; exact (hbb.out.1 rfl).succ (by rw [hy, hhi, e])
          · intro h; have := h k (by omega); rwa [hy, hhi] at this : ∀ bb : Bool, (bb = true ↔ y = f.hi) → (bb = true ↔ Fc.LastTo d l (k + 1)))
        obtain ⟨z, hz⟩ : ∃ z, z = f.hi := ⟨_, rfl⟩
        rw [← hz] at HK p3
        clear hcl7 hga7 hsl2 hsl3 hcl8 hga8 hsl4 hsl5 hf hy hhi hbb hxw hz hbx
        by_cases hyz : y = z
        · have HKK := Lib.hid (HK.out true (by simp [hyz]))
          subst hyz
          go_upto_region 11 with fail
          go_region
          all_goals
            go_wp2_with fail
            go_roundw
            case rel => exact ⟨k + 1, by omega, by go_num, ⟨true, rfl, HKK⟩, HX8⟩
            case measure => simp [intOf]; omega
        · have HKK := Lib.hid (HK.out false (by simp [hyz]))
          have hyzb : (y == z) = false := by rw [beq_eq_false_iff_ne]; exact hyz
          go_upto_region 11 with fail
          go_region
          all_goals
            go_wp2_with fail
            go_roundw
            case rel => exact ⟨k + 1, by omega, by go_num, ⟨false, rfl, HKK⟩, HX8⟩
            case measure => simp [intOf]; omega
    · obtain rfl : k = n2 := by omega
      have hki : ¬ (k : Int) < (k : Int) := by omega
      have hlast : (bb = true ↔ Fc.next d l = none) := by
        rw [hbb.out, Fc.next_none HY.out.2.2.1.2, Fc.last_iff (Fc.within_len HY.out.2.2.1.2), ← HND.out]
      have HL := Lib.hid hlast
      clear hbb hlast
      go_wp2_with fail
      refine (next_walk _ _ d l wr (HV.out _ hbx.out.below) (HU.out _ hbx.out.below) HY.out.2.2.1).mono ?_
      rintro e w8 ⟨h8, hb8⟩
      have hx8 := hbx.out.next hb8
      have q9 := hx8.cell
      have HX8 := Lib.hid hx8
      clear hb8 hx8 hbx q8
      cases hnx : Fc.next d l with
      | none =>
        rw [hnx] at h8
        obtain rfl : e = _ := h8
        obtain rfl : bb = true := HL.out.2 hnx
        have HNX := Lib.hid hnx
        clear HL hnx
        go_wp2_with fail
        refine (less_walk _ _ l m w8 (HU.out _ HX8.out.below) (HX.out _ HX8.out.below) HLM.out).mono ?_
        rintro e w9 ⟨⟨b, rfl, hb⟩, hb9⟩
        obtain rfl : b = false := by
          cases b with
          | false => rfl
          | true =>
            obtain ⟨_, h1, _⟩ := Fc.next_least HY.out.2.2.1.2 HY.out.2.2.2.2 (hb.1 rfl)
            rw [HNX.out] at h1; cases h1
        have HX9 := Lib.hid (HX8.out.next hb9)
        clear hb hb9 HX8 q9
        go_wp2_with fail
        go_ret
        exact ⟨rfl, HX9.out.below⟩
      | some cc =>
        rw [hnx] at h8
        obtain ⟨v8, he, ho⟩ := h8
        obtain rfl : e = _ := he
        obtain rfl : bb = false := by
          cases bb with
          | false => rfl
          | true => have := HL.out.1 rfl; rw [hnx] at this; cases this
        obtain ⟨hw8, hl8⟩ := Fc.next_some HLE.out HY.out.2.2.1.2 hnx
        have hcl : cc.length = k := by rw [Fc.within_len hw8, ← HND.out]
        obtain ⟨a8, c8, rfl⟩ := Fc.OwnE.form ho
        have hN8 := Fc.OwnE.isN ho (by intro y hy; have := Fc.within_bound HY.out.2.2.1.1 hw8 y hy; omega)
        rw [hcl] at hN8 ⊢
        have HN8 : Hid (∀ w', Below w8.heap.size w8 w' → Fc.IsN w' (.slice a8 k c8) cc) := fun w' hb => hN8.below hb
        have HNX := Lib.hid (And.intro hnx (And.intro hw8 (And.intro hl8 hcl)))
        clear HL hnx ho hw8 hl8 hcl hN8
        go_wp2_with fail
        refine (fits_walk _ _ d cc w8 (HV.out _ HX8.out.below) (HN8.out _ (Below.refl _ _))).mono ?_
        rintro e w9 ⟨⟨b, rfl, hb⟩, hb9⟩
        obtain rfl : b = true := hb.2 ⟨HY.out.2.2.1.1, HNX.out.2.1⟩
        have HX9 := Lib.hid (HX8.out.next hb9)
        have HB9 := Lib.hid hb9
        clear hb hb9 HX8 q9
        go_wp2_with fail
        refine (less_walk _ _ l cc w9 (HU.out _ HX9.out.below) (HN8.out _ HB9.out) (by rw [HNX.out.2.2.2, ← HN2.out])).mono ?_
        rintro e w10 ⟨⟨b, rfl, hb⟩, hb10⟩
        obtain rfl : b = true := hb.2 HNX.out.2.2.1
        have HX10 := Lib.hid (HX9.out.next hb10)
        have HB10 := Lib.hid (HB9.out.trans (hb10.mono HB9.out.size))
        clear hb hb10 HX9 HB9
        go_wp2_with fail
        refine (less_walk _ _ l m w10 (HU.out _ HX10.out.below) (HX.out _ HX10.out.below) HLM.out).mono ?_
        rintro e w11 ⟨⟨b, rfl, hb⟩, hb11⟩
        have HX11 := Lib.hid (HX10.out.next hb11)
        have HB11 := Lib.hid (HB10.out.trans (hb11.mono HB10.out.size))
        clear hb11 HX10 HB10
        cases b with
        | false =>
          clear hb
          go_wp2_with fail
          go_ret
          exact ⟨rfl, HX11.out.below⟩
        | true =>
          have HLT := Lib.hid (hb.1 rfl)
          clear hb
          go_wp2_with fail
          refine (less_walk _ _ m cc w11 (HX.out _ HX11.out.below) (HN8.out _ HB11.out) (by rw [HNX.out.2.2.2, ← HLM.out, ← HN2.out])).mono ?_
          rintro e w12 ⟨⟨b, rfl, hb⟩, hb12⟩
          obtain rfl : b = false := by
            cases b with
            | false => rfl
            | true =>
              obtain ⟨n9, h1, h2⟩ := Fc.next_least HY.out.2.2.1.2 HY.out.2.2.2.2 HLT.out
              rw [HNX.out.1] at h1
              obtain rfl := Option.some.inj h1
              have := hb.1 rfl
              rw [h2] at this; cases this
          have HX12 := Lib.hid (HX11.out.next hb12)
          clear hb hb12 HX11
          go_wp2_with fail
          go_ret
          exact ⟨rfl, HX12.out.below⟩

/-- The law, as the walks say it. -/
theorem walks_walk (v u x : Value) (d : List Fc.Fact) (l m : List Int) (w : World) (hv : Fc.IsF w v d) (hu : Fc.IsN w u l) (hx : Fc.IsN w x m) (ht : HasTab w) :
    Calls Tryd.prog 6 #[.agg #[v], u, x] w fun e w' => e = .returned (.bool true) ∧ Below w.heap.size w w' := by
  by_cases h : (Fc.Few d 70 ∧ l.length ≤ 70) ∧ m.length ≤ 70 ∧ Fc.Fit d l ∧ Fc.Fit d m
  · exact walks_in v u x d l m w hv hu hx ht h
  · exact walks_out v u x d l m w hv hu hx ht h
end Go.Proofs.YtoamkanofhhjfaaDoor
