import Derived.Test.YtoamkanofhhjfaaDoorKLFrameD
import Derived.Test.YtoamkanofhhjfaaDoorKFOrdA
import Derived.Test.YtoamkanofhhjfaaDoorKFHeld
/-
  FactOrder (P6.4): for every domain and case that fits, its values in reverse order make the same case. No condition: the statement itself asks at most 70 facts with names of at most 100 bytes and cases of at most 70 values that fit; for others it says what the law's opening check answers.
-/
namespace Go.Proofs.YtoamkanofhhjfaaDoor.factOrder
open Go.ChangeShapes Go.WideShapes Go.ChangeAt Go.RowKit

set_option maxHeartbeats 4000000 in
set_option maxRecDepth 100000 in
/-- Sizes that are too great, or a case that does not fit: the law says true. -/
theorem out_walk (v u : Value) (d : List Fc.Fact) (a : List Int) (w : World) (hv : Fc.IsF w v d) (hu : Fc.IsN w u a) (ht : HasTab w)
    (hno : ¬ ((Fc.Few d 70 ∧ a.length ≤ 70) ∧ Fc.Fit d a)) :
    Calls Tryd.prog 5 #[.agg #[v], u] w fun e w' => e = .returned (.bool true) ∧ Below w.heap.size w w' := by
  have HV : Hid (∀ w', Below w.heap.size w w' → Fc.IsF w' v d) := fun w' hb => hv.below hb
  have HU : Hid (∀ w', Below w.heap.size w w' → Fc.IsN w' u a) := fun w' hb => hu.below hb
  obtain ⟨y, c, rfl, _, _⟩ := hv.form
  obtain ⟨a2, c2, _, _, rfl, _, _, h3, h4⟩ := hu.any
  clear hv hu h3 h4
  obtain ⟨n, hn⟩ : ∃ n, n = d.length := ⟨_, rfl⟩
  obtain ⟨n2, hn2⟩ : ∃ n, n = a.length := ⟨_, rfl⟩
  rw [← hn] at HV ⊢
  rw [← hn2] at HU ⊢
  have HB0 := Lib.hid (Boxed.start w (.slice y n c))
  have HT0 := Lib.hid (ht.below HB0.out.below)
  have HNO := Lib.hid hno
  clear hn hn2 ht hno
  go_enter Tryd.func5, Tryd.ntmps5
  go_wp2_with fail
  refine (head_walk _ HT0.out).mono ?_
  rintro e w1 ⟨rfl, hb1⟩
  have hx1 := HB0.out.next hb1
  have q1 := hx1.cell
  have HX1 := Lib.hid hx1
  clear hb1 hx1 HB0 HT0
  go_wp2_with fail
  refine (few_walk _ _ d a w1 (HV.out _ HX1.out.below) (HU.out _ HX1.out.below)).mono ?_
  rintro e w2 ⟨⟨t, rfl, hb⟩, hb2⟩
  have hx2 := HX1.out.next hb2
  have q2 := hx2.cell
  have HX2 := Lib.hid hx2
  clear hb2 hx2 HX1 q1
  cases t with
  | false =>
    clear hb
    go_wp2_with fail
    go_ret
    exact ⟨rfl, HX2.out.below⟩
  | true =>
    have hnf : ¬ Fc.Fit d a := fun h => HNO.out ⟨hb.1 rfl, h⟩
    clear hb
    go_wp2_with fail
    refine (fits_is _ _ d a w2 (HV.out _ HX2.out.below) (HU.out _ HX2.out.below) false (by simp [hnf])).mono ?_
    rintro e w3 ⟨rfl, hb3⟩
    have HX3 := Lib.hid (HX2.out.next hb3)
    clear hb3 HX2 q2
    go_wp2_with fail
    go_ret
    exact ⟨rfl, HX3.out.below⟩

theorem fit_reverse {d : List Fc.Fact} {a : List Int} (h : Fc.Fit d a) : Fc.Fit d.reverse a.reverse := by
  obtain ⟨hv, hw⟩ := h
  obtain ⟨h1, h2⟩ := Fc.within_get.1 hw
  refine ⟨⟨fun f hf => hv.1 f (List.mem_reverse.1 hf), ?_, by rw [List.length_reverse]; exact hv.2.2⟩, Fc.within_get.2 ⟨by rw [List.length_reverse, List.length_reverse, h1], fun i f x hf hx => ?_⟩⟩
  · rw [List.map_reverse]
    have h : (d.map (·.name)).reverse.Pairwise (· ≠ ·) := List.pairwise_reverse.2 (hv.2.1.imp fun h => h.symm)
    exact h
  · have hi : i < d.length := by
      have := (List.getElem?_eq_some_iff.1 hf).1
      rwa [List.length_reverse] at this
    rw [List.getElem?_reverse hi] at hf
    rw [List.getElem?_reverse (by omega)] at hx
    rw [h1] at hx
    exact h2 _ f x hf hx

set_option maxHeartbeats 8000000 in
set_option maxRecDepth 100000 in
theorem in_walk (v u : Value) (d : List Fc.Fact) (a : List Int) (w : World) (hv : Fc.IsF w v d) (hu : Fc.IsN w u a) (ht : HasTab w)
    (hyes : (Fc.Few d 70 ∧ a.length ≤ 70) ∧ Fc.Fit d a) :
    Calls Tryd.prog 5 #[.agg #[v], u] w fun e w' => e = .returned (.bool true) ∧ Below w.heap.size w w' := by
  have HV : Hid (∀ w', Below w.heap.size w w' → Fc.IsF w' v d) := fun w' hb => hv.below hb
  have HU : Hid (∀ w', Below w.heap.size w w' → Fc.IsN w' u a) := fun w' hb => hu.below hb
  have HT : Hid (∀ w', Below w.heap.size w w' → HasTab w') := fun w' hb => ht.below hb
  obtain ⟨y, c, rfl, _, _⟩ := hv.form
  obtain ⟨a2, c2, _, _, rfl, _, _, h3, h4⟩ := hu.any
  clear hv hu h3 h4
  obtain ⟨n, hn⟩ : ∃ n, n = a.length := ⟨_, rfl⟩
  have hnd : d.length = n := by rw [hn]; exact (Fc.within_len hyes.2.2).symm
  rw [hnd] at HV ⊢
  rw [← hn] at HU ⊢
  have HND := Lib.hid (And.intro hn hnd)
  have HB0 := Lib.hid (Boxed.start w (.slice y n c))
  have HY := Lib.hid hyes
  have hn60 : n ≤ 60 := by have := hyes.2.1.2.2; omega
  clear hn hnd ht hyes
  go_enter Tryd.func5, Tryd.ntmps5
  go_wp2_with fail
  refine (head_walk _ (HT.out _ HB0.out.below)).mono ?_
  rintro e w1 ⟨rfl, hb1⟩
  have hx1 := HB0.out.next hb1
  have q1 := hx1.cell
  have HX1 := Lib.hid hx1
  clear hb1 hx1 HB0
  go_wp2_with fail
  refine (few_is _ _ d a w1 (HV.out _ HX1.out.below) (HU.out _ HX1.out.below) true (by simp [HY.out.1])).mono ?_
  rintro e w2 ⟨rfl, hb2⟩
  have hx2 := HX1.out.next hb2
  have q2 := hx2.cell
  have HX2 := Lib.hid hx2
  clear hb2 hx2 HX1 q1
  go_wp2_with fail
  refine (fits_is _ _ d a w2 (HV.out _ HX2.out.below) (HU.out _ HX2.out.below) true (by simp [HY.out.2])).mono ?_
  rintro e w3 ⟨rfl, hb3⟩
  have hx3 := HX2.out.next hb3
  have q3 := hx3.cell
  have HX3 := Lib.hid hx3
  clear hb3 hx3 HX2 q2
  go_upto_region 5 with fail
  obtain ⟨E, hE⟩ : ∃ E, E = w3.heap.size := ⟨_, rfl⟩
  obtain ⟨W, hW⟩ : ∃ W, W = (w3.alloc (.cells #[] 3)).alloc (.cells #[.slice none 0 0] 24) := ⟨_, rfl⟩
  have hst : Fc.OSt w (E + 1) d a (.slice y n c) n n (.slice none 0 0) (.slice (some ⟨E, 0, none⟩) 0 0) W := by
    have e1 : (w3.alloc (.cells #[] 3)).heap.size = w3.heap.size + 1 := by simp
    refine ⟨HX3.out.next (by rw [hW]; exact ((Below.refl _ _).alloc (Nat.le_refl _) _).alloc (by simp) _), by have := HX3.out.lt; omega, ?_, ?_, ?_⟩
    · rw [hW, hE, ← e1]; exact heap_alloc_new _ _
    · rw [List.drop_eq_nil_of_le (by rw [HND.out.2]; exact Nat.le_refl _)]; exact Fc.OwnF.nil _ _
    · rw [List.drop_eq_nil_of_le (by rw [← HND.out.1]; exact Nat.le_refl _)]; exact .inr ⟨rfl, rfl, _, rfl⟩
  have HST := Lib.hid hst
  rw [← hW, ← hE]
  clear hW hE hst HX3 q3
  have hn0 : (0 : Int) ≤ (n : Int) := by omega
  have hn6 : (n : Int) ≤ 60 := by omega
  go_wp2_with fail
  go_loopw [7, 8] (fun vt i wr => ∃ (j : Nat) (z : Int) (vb : Value), j ≤ n ∧ i = .int .i64 z ∧ z = (j : Int) - 1 ∧ Hid (Fc.OSt w (E + 1) d a (.slice y n c) j j vb vt wr)) (fun _ i _ => (intOf i + 1).toNat)
  case atStart => exact ⟨n, _, _, Nat.le_refl _, rfl, rfl, HST⟩
  case round =>
    clear HST
    obtain ⟨j, z, vb, hj, rfl, hz, hst⟩ := hrel
    cases j with
    | zero =>
      obtain rfl : z = -1 := by omega
      have hF9 := hst.out.facts
      have hN9 := hst.out.nums
      rw [List.drop_zero] at hF9 hN9
      rw [← HND.out.1] at hN9
      have hsz : ∀ f ∈ d.reverse, Fc.Sized f := fun f hf => HY.out.2.1.sized f (List.mem_reverse.1 hf)
      obtain ⟨⟨ga, gc⟩, hvb⟩ := hF9.form
      dsimp only at hvb
      rw [List.length_reverse, HND.out.2] at hvb
      subst hvb
      obtain ⟨a8, c8, rfl⟩ := Fc.OwnE.form hN9
      have hNr : Fc.IsN wr (.slice a8 n c8) a.reverse := Fc.OwnE.isN (l := a.reverse) (base := E + 1 + 1) (by rw [List.length_reverse, ← HND.out.1]; exact hN9) (fun y hy => by have := Fc.case_small HY.out.2.1 HY.out.2.2 y (List.mem_reverse.1 hy); omega)
      have hFr := hF9.isF hsz
      obtain ⟨s1, hs1⟩ : ∃ s, s = Lx.str (Fc.ctext d.reverse a.reverse) := ⟨_, rfl⟩
      have hfit := fit_reverse HY.out.2
      have hs1l : (Fc.ctext d.reverse a.reverse).length ≤ 20000 := by
        have := Fc.ctext_len d.reverse a.reverse hfit.1.1
        rw [List.length_reverse, HND.out.2] at this
        omega
      have hs63 : s1.size ≤ 9223372036854775807 := by rw [hs1, Fc.str_size]; omega
      have hct : Fc.caseT d (Lx.tx s1) = .ok a := by rw [hs1, Lx.tx_str]; exact Fc.caseT_turned HY.out.2.1 HY.out.2.2 hs1l
      have hxd := hst.out.held
      have HCT : Hid (∀ w', Fc.Old wr w' → Calls Tryd.prog 14 #[.agg #[.slice ga n gc], .slice a8 n c8] w' (Fc.Gives (.string s1) w')) := fun w' h =>
        casetext_is _ _ d.reverse a.reverse w' (hFr.below h.out) (hNr.below h.out) (HT.out _ (hxd.next h.out).below) s1 (by rw [if_pos hfit]; exact hs1)
      have HPC : Hid (∀ w', Fc.Old wr w' → Calls Tryd.prog 15 #[.agg #[.slice y n c], .string s1] w' fun e w'' => Below w'.heap.size w' w'' ∧ ∃ g, e = .returned (.tuple #[.slice (some ⟨g, 0, none⟩) n n, .int .i64 0, .int .i64 0]) ∧ Fc.IsN w'' (.slice (some ⟨g, 0, none⟩) n n) a) := fun w' h =>
        (parsecase_is _ d s1 hs63 w' (HV.out _ (hxd.next h.out).below) HY.out.2.1 hct).mono fun e w'' ⟨hb, g, he, hN, _⟩ => by rw [← HND.out.1] at he hN; exact ⟨hb, g, he, hN⟩
      have r2 : ∀ w', Fc.Old wr w' → w'.cell? ⟨w.heap.size, 0, none⟩ = some (.slice y n c) := fun w' h => (hxd.next h.out).cell
      have r6 : ∀ w', Fc.Old wr w' → w'.cell? ⟨E + 1, 0, none⟩ = some (.slice ga n gc) := fun w' h => h.cell (by have := hst.out.lt; omega) (Joins.cell_of_block hst.out.back 0)
      have HXD := Lib.hid hxd
      clear hst hF9 hN9 hsz hNr hFr hs1 hfit hs1l hs63 hct hxd hz hj
      go_wp2_with fail
      go_region_held3 (fun w' => Fc.Old wr w') (first | exact Fc.Old.refl wr | exact Fc.Old.drew wr | exact Fc.Old.step (by with_reducible assumption) (by with_reducible assumption) | with_reducible assumption) (first | (go_at_call 14; (with_reducible refine (HCT.out _ (by with_reducible assumption)).mono ?_); rintro e5 w5 ⟨rfl, hb5⟩) | (go_at_call 15; (with_reducible refine (HPC.out _ (by with_reducible assumption)).mono ?_); rintro e6 w6 ⟨hb6, g6, rfl, hN6⟩))
      have hO : Fc.Old wr w6 := by with_reducible assumption
      have HX6 := Lib.hid (HXD.out.next hO.out)
      have HQ := Lib.hid (equal_is _ _ a a w6 hN6 (HU.out _ HX6.out.below) true (by simp))
      clear r2 r6 HCT HPC HXD hN6 hb6 hO
      go_wp2_with fail
      refine HQ.out.mono ?_
      rintro e w7 ⟨rfl, hb7⟩
      have HX7 := Lib.hid (HX6.out.next hb7)
      clear hb7 HX6 HQ
      go_wp2_with fail
      go_ret
      exact ⟨rfl, HX7.out.below⟩
    | succ k =>
      obtain rfl : z = (k : Int) := by omega
      have hki : (k : Int) < (n : Int) := by omega
      have hk0 : (0 : Int) ≤ (k : Int) := by omega
      have hkn : k < n := by omega
      obtain ⟨f, hf⟩ : ∃ f, d[k]? = some f := ⟨_, List.getElem?_eq_getElem (by rw [HND.out.2]; exact hkn)⟩
      obtain ⟨x, hx⟩ : ∃ x, a[k]? = some x := ⟨_, List.getElem?_eq_getElem (by rw [← HND.out.1]; exact hkn)⟩
      have hxw := hst.out.held.below.drew
      obtain ⟨_, _, g7, o7, hsl, _, _, hga7, hcl7⟩ := (HV.out wr.drew hxw).any
      obtain ⟨rfl, hg7⟩ := hga7 (by rintro rfl; simp at hf)
      injection hsl with hsl1 hsl2 hsl3
      subst hsl1
      obtain ⟨p0, p1, p2, p3⟩ := hcl7 k f hf
      obtain ⟨⟨ga, gc⟩, hvb⟩ := hst.out.facts.form
      dsimp only at hvb
      obtain ⟨m, hm⟩ : ∃ m, m = (d.drop (k + 1)).reverse.length := ⟨_, rfl⟩
      rw [← hm] at hvb
      subst hvb
      have hm6 : (d.drop (k + 1)).reverse.length < 1000000 := by rw [List.length_reverse, List.length_drop, HND.out.2]; omega
      have q1 : wr.drew.cell? ⟨w.heap.size, 0, none⟩ = some (.slice (some ⟨g7, o7, none⟩) n c) := hst.out.held.cell
      have hback : wr.drew.heap[E + 1]? = some (.cells #[.slice ga m gc] 24 (0, 0)) := hst.out.back
      have d0 : wr.drew.cell? ⟨E + 1, 0, none⟩ = some (.slice ga m gc) := Joins.cell_of_block hback 0
      have d0a : ∀ o, (wr.alloc o).cell? ⟨E + 1, 0, none⟩ = some (.slice ga m gc) := fun o => (World.cell?_alloc_some wr _ o (by rw [show wr.cell? ⟨E + 1, 0, none⟩ = _ from d0]; rfl)).trans d0
      have hlt := hst.out.lt
      have HON : Hid (∀ o, Fc.OwnF (E + 1 + 1) (d.drop (k + 1)).reverse (.slice ga m gc) (wr.alloc o).drew) := fun o => hst.out.facts.below (((Below.refl wr.heap.size wr).drew).alloc (Nat.le_refl _) o)
      have HBS : Hid (∀ o, E + 1 + 1 ≤ (wr.alloc o).drew.heap.size) := fun o => Nat.le_trans hlt (Below.alloc (Below.refl wr.heap.size wr.drew) (Nat.le_refl _) o).size
      have HFB : Hid (∀ o, (wr.alloc o).drew.heap[E + 1]? = some (.cells #[.slice ga m gc] 24 (0, 0))) := fun o => (Below.heap_alloc _ _ _ hlt).trans hback
      have HBL : Hid (∀ o, Below wr.heap.size wr (wr.alloc o).drew) := fun o => ((Below.refl wr.heap.size wr).drew).alloc (Nat.le_refl _) o
      have HF := Lib.hid hf
      have HX := Lib.hid hx
      have HM := Lib.hid hm
      have HM6 := Lib.hid hm6
      clear hxw hga7 hcl7 hsl2 hsl3 hf hx hback hlt hm hm6 hz
      go_wp2_with fail
      go_region_law (first | (refine step_append_fact (by rfl) (.tmp 34) (.tmp 40) rfl (E + 1 + 1) (d.drop (k + 1)).reverse _ rfl (HON.out _) f wr.heap.size (0, 0) _ rfl (heap_alloc_new wr _) HM6.out (HBS.out _) ?_; intro g cc w10 hown10 hg10; have h10 := dom_append hg10 (HON.out (.cells #[] 0)).lt (HFB.out _); have d10 := Joins.cell_of_block h10 0; have u10 := Joins.unfrozen_of_block h10 0; have HW10 := Lib.hid (And.intro hown10 hg10); clear hown10 hg10 h10))
      all_goals
        obtain ⟨r1, r2⟩ := HW10.out
        rw [show (d.drop (k + 1)).reverse.length = d.length - (k + 1) by simp] at r1
        have hst2 := hst.out.fact HF.out (HBL.out _) r1 r2
        obtain ⟨v2, hv2⟩ : ∃ v2, v2 = Value.slice (some ⟨g, 0, none⟩) (d.length - (k + 1) + 1) cc := ⟨_, rfl⟩
        rw [← hv2] at hst2 ⊢
        obtain ⟨W2, hW2⟩ : ∃ W2, W2 = w10.setCell ⟨E + 1, 0, none⟩ v2 := ⟨_, rfl⟩
        rw [← hW2] at hst2 ⊢
        obtain ⟨_, _, g8, o8, hsl, _, _, hga8, hcl8⟩ := (HU.out W2 hst2.held.below).any
        obtain ⟨rfl, hg8⟩ := hga8 (by rintro rfl; have := HX.out; simp at this)
        injection hsl with hsl1 hsl2 hsl3
        subst hsl1
        have p5 := hcl8 k (by rw [← HND.out.1]; exact hkn)
        rw [List.getD_eq_getElem?_getD, HX.out, Option.getD_some] at p5
        have hxb := (HU.out W2 hst2.held.below).bounds x (List.mem_of_getElem? HX.out)
        have HXB := Lib.hid hxb
        have HN2 : Hid (∀ o, OwnE (W2.alloc o) (E + 1 + 1) 3 _ (a.drop (k + 1)).length (Fc.cellsN (a.drop (k + 1)).reverse)) := fun o => (hst2.below ((Below.refl _ _).alloc (Nat.le_refl _) o)).nums
        have HL2 : Hid (∀ o, E + 1 + 1 ≤ (W2.alloc o).heap.size) := fun o => (hst2.below ((Below.refl _ _).alloc (Nat.le_refl _) o)).lt
        have HA6 : Hid ((a.drop (k + 1)).length < 1000000) := (by rw [List.length_drop, ← HND.out.1]; omega : (a.drop (k + 1)).length < 1000000)
        have HS2 := Lib.hid hst2
        clear hv2 hW2 hst2 r1 r2 HW10 d10 u10 hga8 hcl8 hsl2 hsl3 hxb hst d0 d0a q1 p0 p1 p2 p3 HON HBS HFB HBL HF HM HM6
        go_wp2_with (first | (at_builtin; refine wpList_append_num _ rfl (.tmp 43) (.tmp 48) rfl (E + 1 + 1) _ _ _ rfl (HN2.out _) x W2.heap.size (0, 0) _ rfl (heap_alloc_new W2 _) HXB.out HA6.out (HL2.out _) ?_; intro g2 cc2 w12 ho hr))
        have hst3 := HS2.out.num HX.out ((Below.refl _ _).alloc (Nat.le_refl _) _) ho hr
        simp only [List.length_drop] at hst3
        go_roundw
        case rel => exact ⟨k, (k : Int) - 1, _, by omega, by go_num, rfl, hst3⟩
        case measure => simp [intOf]

set_option maxRecDepth 100000 in
theorem law_walk (v : Value) (d : List Fc.Fact) (u : Value) (a : List Int) (w : World) (hv : Fc.IsF w v d) (hu : Fc.IsN w u a) (ht : HasTab w) :
    Calls Tryd.prog 5 #[.agg #[v], u] w fun e w' => e = .returned (.bool true) ∧ Below w.heap.size w w' := by
  by_cases h : (Fc.Few d 70 ∧ a.length ≤ 70) ∧ Fc.Fit d a
  · exact in_walk v u d a w hv hu ht h
  · exact out_walk v u d a w hv hu ht h

set_option maxRecDepth 100000 in
/-- What the walk gives, for all arguments and every world that holds the tables. -/
theorem contract (H : Type) (enc : TypeId × Value → H) (W : World) (base : Nat) (args : Array Value) (ds gs : List (DataW H)) (before : List MemPlace)
    (hval : ∀ (j : Nat) t v, Tryd.f5.params[j]? = some t → args[j]? = some v → Value.okWide Tryd.prog W .any base t v)
    (hW : DataW.Whole enc Tryd.prog Tryd.f5.params.toList Rows.factOrderSpec.vars false W args.toList ds gs before) (hL : laidMetH Tryd.prog laidAll W) :
    Calls Tryd.prog 5 args W fun e W' => ∃ v, e = .returned v ∧ Rows.factOrderSpec.post enc Tryd.prog Tryd.f5 false true false false W args v W' := by
  have hW' := hW
  obtain ⟨p, q, hA0, hV, rfl, hfz, hnd⟩ := hW
  have hA : DataW.TrodAll enc Tryd.prog W 0 (fun _ => true) true Tryd.f5.params.toList args.toList ds p := hA0
  rw [Tryd.params5] at hA hval
  obtain ⟨v0, vs0, d0, ds0, p0, q0, hargs, rfl, rfl, h0, r0⟩ := trodAll_cons hA
  obtain ⟨v1, vs1, d1, ds1, p1, q1, rfl, rfl, rfl, h1, r1⟩ := trodAll_cons r0
  obtain ⟨rfl, rfl, rfl⟩ := trodAll_nil r1
  obtain rfl : args = #[v0, v1] := by cases args; simp_all
  obtain ⟨rfl, rfl⟩ := trodVars_none hV
  obtain ⟨u0, l0, rfl, t0⟩ := open_domain (hval 0 24 v0 rfl rfl) h0
  obtain ⟨l1, t1⟩ := open_case (hval 1 35 v1 rfl rfl) h1
  refine (law_walk u0 l0 v1 l1 W t0 t1 (hasTab hL)).mono fun e W' ⟨he, hg⟩ => ?_
  subst he
  exact ⟨_, rfl, post_law rfl rfl rfl rfl rfl (by rw [Tryd.params5]; decide) hW' hg⟩

theorem laid_met (os : Os) : laidMet Tryd.prog Rows.factOrderRow.laid ((laidWorld os).forCall (fun _ _ => 0) ⟨#[], #[.agg #[.slice none 0 0], .slice none 0 0], []⟩).memory :=
  laidMet_of_run' 8 (by kernel_rfl) (by kernel_rfl)
theorem reads (os : Os) {H : Type} (enc : TypeId × Value → H) : ∃ places, DataW.whole enc Tryd.prog ((laidWorld os).forCall (fun _ _ => 0) ⟨#[], #[.agg #[.slice none 0 0], .slice none 0 0], []⟩).memory Tryd.f5.params.toList Rows.factOrderSpec.vars false #[Value.agg #[.slice none 0 0], Value.slice none 0 0].toList 8 = some ([.agg [.nil], .nil], [], places) :=
  ⟨[], by kernel_rfl⟩

set_option maxRecDepth 100000 in
theorem lifted (os : Os) (started : os.Started) (H : Type) (enc : TypeId × Value → H) (F : Stop.Interp) :
    ReturnsInHanded {} Tryd.checked os 5 .any ((OpenSpec.ofChange Rows.factOrderSpec).preRow enc Tryd.prog Tryd.f5 Rows.factOrderRow.domain false Rows.factOrderRow.laid) (((OpenSpec.ofChange Rows.factOrderSpec).at F).post enc Tryd.prog Tryd.f5 false true false false) := by
  obtain ⟨places, hx⟩ := reads os enc
  refine returnsInHanded_of_row (C := Tryd.checked) (s := OpenSpec.ofChange Rows.factOrderSpec) own started (by kernel_rfl) Tryd.func5
    (witness_row_at (enc := enc) (C := Tryd.checked) false (laidWorld os) #[.agg #[.slice none 0 0], .slice none 0 0] rfl (by kernel_rfl) (by kernel_rfl) (by kernel_rfl)
      (OpenSpec.preRow_of_cond 8 hx (by kernel_rfl) (fun k hk => by cases hk) (by kernel_rfl) (laid_met os))) ?_
  intro W base args ds gs before hval hW _ _ _ hL _ _
  exact contract H enc W base args ds gs before hval hW hL

theorem said : Rows.FactOrderSaid :=
  OpenClaim.holds_of_cond 5 Tryd.f5 rfl rfl rfl rfl rfl rfl rfl ⟨rfl, rfl, rfl, rfl, rfl⟩ rfl rfl rfl rfl rfl (by kernel_rfl) Tryd.func5 (by kernel_rfl)
    (of_decide_eq_true (by kernel_rfl)) (by unfold Func.isWrapper; first | (rw [if_pos (by decide +kernel)]; kernel_rfl) | (rw [if_neg (by decide +kernel)]; exact ⟨rfl, rfl⟩))
    (fun os started H enc _ F => by rw [OpenClaim.pre_eq_preRow]; exact lifted os started H enc F)


set_option maxRecDepth 100000 in
/-- No parameter wants a stand-in; the program's own looks are off: what the card asks. -/
theorem plain (f : FuncId) (fn : Func) (hf : Tryd.pinned.checked.prog.funcNamed "pandect/pandectlaw06.FactOrder" = some f) (hfn : Tryd.pinned.checked.prog.funcs[f]? = some fn) :
    true = Tryd.pinned.checked.prog.looks [] ∧ ∀ (j : Nat) t, fn.params[j]? = some t → Tryd.pinned.checked.prog.wantsStandIn t = false := by
  obtain rfl : f = 5 := Option.some.inj ((show Tryd.prog.funcNamed "pandect/pandectlaw06.FactOrder" = some 5 by kernel_rfl).symm.trans hf) |>.symm
  obtain rfl : fn = Tryd.f5 := (Option.some.inj (Tryd.func5.symm.trans hfn)).symm
  refine ⟨by kernel_rfl, fun j t ht => ?_⟩
  rw [Tryd.params5] at ht
  have hm := Array.mem_of_getElem? ht
  simp only [List.mem_toArray, List.mem_cons, List.not_mem_nil, or_false] at hm
  rcases hm with rfl | rfl
  · exact wants_domain
  · exact wants_case

theorem card : Rows.FactOrderCardSaid :=
  Claim7.holds_tied_plain_at .later [] _ _ _ _ said (fun _ h => by cases h) (by kernel_rfl) (fun _ h => by cases h) factOrder_row_tie rfl ⟨rfl, rfl⟩ (by kernel_rfl) rfl plain (by kernel_rfl)
end Go.Proofs.YtoamkanofhhjfaaDoor.factOrder
