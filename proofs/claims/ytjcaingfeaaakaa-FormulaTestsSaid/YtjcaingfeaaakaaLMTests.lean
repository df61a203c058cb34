/-
  FormulaTests (P7.3): for every domain, case, index and number the six comparisons hold as those of the value do. No condition: the statement itself asks few facts, a valid domain, a case that fits, a number from 0 to 1000000; for others it says what the law's opening check answers.
-/
import Derived.Test.YtjcaingfeaaakaaLFrameM
import Derived.Test.YtjcaingfeaaakaaMTestsA
import Derived.Deep.RegionHeld3
import Derived.Deep.CutRange
namespace Go.Proofs.Ytjcaingfeaaakaa.formulaTests
open Go.ChangeShapes Go.WideShapes Go.ChangeAt Go.RowKit

set_option maxHeartbeats 8000000 in
set_option maxRecDepth 100000 in
theorem law_walk (v : Value) (d : List Fc.Fact) (cv : Value) (c : List Int) (b : Nat) (n : Int) (w : World) (hd : Fc.IsF w v d) (hc : Fc.IsN w cv c) (hb : b ≤ 255) (hn1 : -9223372036854775808 ≤ n) (hn2 : n ≤ 9223372036854775807) :
    Calls Try.prog 5 #[.agg #[v], cv, .int .u8 b, .int .i64 n] w fun e w' => e = .returned (.bool true) ∧ Below w.heap.size w w' := by
  have HD : Hid (∀ w', Below w.heap.size w w' → Fc.IsF w' v d ∧ Fc.IsN w' cv c) := fun w' h => ⟨hd.below h, hc.below h⟩
  obtain ⟨va, vc, hv, hv1, hv2⟩ := hd.form
  obtain ⟨ca, cc, g, o, hcv, hc1, hc2, hga, hcl⟩ := hc.any
  obtain ⟨nd, hnd⟩ : ∃ n, n = d.length := ⟨_, rfl⟩
  obtain ⟨m, hm⟩ : ∃ n, n = c.length := ⟨_, rfl⟩
  rw [← hnd] at hv hv1
  rw [← hm] at hcv hc1
  subst hv hcv
  have HM := Lib.hid (And.intro hnd (And.intro hm (And.intro hga hcl)))
  have HB0 := Lib.hid (Boxed.start w (.slice va nd vc))
  have hmb : m ≤ 9223372036854775807 := by omega
  clear hd hc hga hcl hm hnd
  go_enter Try.func5, Try.ntmps5
  go_wp2_with fail
  refine (head_walk _).mono ?_
  rintro e w1 ⟨rfl, hb1⟩
  have B1 := Lib.hid (HB0.out.next hb1)
  have d1 := B1.out.cell
  clear HB0 hb1
  go_wp2_with fail
  refine (few_walk _ _ _ d c [] w1 (HD.out w1 B1.out.below).1 (HD.out w1 B1.out.below).2 (Fm.IsT.nil _)).mono ?_
  intro e w2 h2
  by_cases hfew : Fm.Few d c []
  case neg =>
    obtain ⟨rfl, hb2⟩ := says_false hfew h2
    have HF := Lib.hid (B1.out.next hb2).below
    clear d1 h2 hb2 hfew
    go_wp2_with fail
    go_ret
    exact ⟨rfl, HF.out⟩
  obtain ⟨rfl, hb2⟩ := says_true hfew h2
  have B2 := Lib.hid (B1.out.next hb2)
  have d2 := B2.out.cell
  clear d1 h2 hb2 hfew B1
  go_wp2_with fail
  refine (valid_walk _ d w2 (HD.out w2 B2.out.below).1).mono ?_
  intro e w3 h3
  by_cases hval : Fc.Valid d
  case neg =>
    obtain ⟨rfl, hb3⟩ := says_false hval h3
    have HF := Lib.hid (B2.out.next hb3).below
    clear d2 h3 hb3 hval
    go_wp2_with fail
    go_ret
    exact ⟨rfl, HF.out⟩
  obtain ⟨rfl, hb3⟩ := says_true hval h3
  have B3 := Lib.hid (B2.out.next hb3)
  have d3 := B3.out.cell
  clear d2 h3 hb3 hval B2
  go_wp2_with fail
  refine (fits_walk _ _ d c w3 (HD.out w3 B3.out.below).1 (HD.out w3 B3.out.below).2).mono ?_
  intro e w4 h4
  by_cases hfit : Fc.Fit d c
  case neg =>
    obtain ⟨rfl, hb4⟩ := says_false hfit h4
    have HF := Lib.hid (B3.out.next hb4).below
    clear d3 h4 hb4 hfit
    go_wp2_with fail
    go_ret
    exact ⟨rfl, HF.out⟩
  obtain ⟨rfl, hb4⟩ := says_true hfit h4
  have B4 := Lib.hid (B3.out.next hb4)
  have d4 := B4.out.cell
  have HFIT := Lib.hid hfit
  clear d3 h4 hb4 hfit B3
  by_cases hm0 : m = 0
  · subst hm0
    have HF := Lib.hid B4.out.below
    go_wp2_with fail
    go_ret
    exact ⟨rfl, HF.out⟩
  have hmi : ¬ (m : Int) = 0 := by omega
  have hmq : ((m : Int) == 0) = false := by rw [beq_eq_false_iff_ne]; exact hmi
  by_cases hn0 : n < 0
  · have HF := Lib.hid B4.out.below
    go_wp2_with fail
    go_ret
    exact ⟨rfl, HF.out⟩
  by_cases hn6 : 1000000 < n
  · have HF := Lib.hid B4.out.below
    go_wp2_with fail
    go_ret
    exact ⟨rfl, HF.out⟩
  have hmp : 0 < m := by omega
  obtain ⟨rfl, hg⟩ := HM.out.2.2.1 (by rintro rfl; have := HM.out.2.1; simp at this; omega)
  obtain ⟨i, hi⟩ : ∃ i, i = b % m := ⟨_, rfl⟩
  have him : i < m := by rw [hi]; exact Nat.mod_lt _ hmp
  have hrem : Int.tmod (b : Int) (m : Int) = (i : Int) := by rw [hi]; exact (Int.ofNat_tmod b m).symm
  have hi0 : (0 : Int) ≤ (i : Int) := by omega
  have hilt : (i : Int) < (m : Int) := by omega
  obtain ⟨x, hx⟩ : ∃ x, x = c.getD i 0 := ⟨_, rfl⟩
  have c4 := (B4.out.below.cell (p := ⟨g, o + i, none⟩) hg).trans (HM.out.2.2.2 i (by rw [← HM.out.2.1]; exact him))
  rw [← hx] at c4
  have HX := Lib.hid hx
  have HI := Lib.hid hi
  clear hi hx
  go_upto_region 5 with fail
  have hc4l := block_lt_of_cell c4
  have c5 : ∀ w', Below w4.heap.size w4 w' → w'.cell? ⟨g, o + i, none⟩ = some (.int .i64 x) := fun w' h => (h.cell (p := ⟨g, o + i, none⟩) hc4l).trans c4
  clear c4
  go_cut [11] from 48 to 84 (fun y wx => ∃ B : Nat, y = .slice (some ⟨B, 0, none⟩) 6 6 ∧ Hid (Below w4.heap.size w4 wx ∧ wx.heap[B]? = some (.cells #[.bool (x == n), .bool (x != n), .bool (decide (x < n)), .bool (decide (x ≤ n)), .bool (decide (n < x)), .bool (decide (n ≤ x))] 4 (0, 0))))
  case first =>
    go_region_held3 (fun w' => Below w4.heap.size w4 w') (first | exact (Below.refl _ _).drew | with_reducible assumption | exact below_al (by with_reducible assumption) _)
      (first | fail)
    all_goals (go_wp2_with fail; go_meet)
    exact ⟨_, rfl, (below_al (Below.refl _ _) _).drew, heap_alloc_new w4 _⟩
  case rest =>
    obtain ⟨B, rfl, h5⟩ := hcut
    have B5 := Lib.hid (B4.out.next h5.out.1)
    obtain ⟨s, hs⟩ : ∃ s, s = Lx.str (d.getD i ⟨[], 0, 0, 0⟩).name := ⟨_, rfl⟩
    have hlen : d.length = c.length := (Fc.within_len HFIT.out.2).symm
    have hnm : nd = m := by rw [HM.out.1, HM.out.2.1, hlen]
    subst hnm
    obtain ⟨f, hf⟩ : ∃ f, d[i]? = some f := ⟨_, List.getElem?_eq_getElem (by rw [← HM.out.1]; exact him)⟩
    have hfs : s = Lx.str f.name := by rw [hs, List.getD_eq_getElem?_getD, hf]; rfl
    obtain ⟨ga, oa, ka, hva, _, _, hgl, hfc⟩ := (HD.out w (Below.refl _ _)).1.some (by rintro rfl; simp at hf)
    obtain ⟨rfl, rfl⟩ : va = some ⟨ga, oa, none⟩ ∧ vc = ka := by cases hva; exact ⟨rfl, rfl⟩
    have q0 := (hfc i f hf).1
    rw [← hfs] at q0
    have WANT : Hid (∀ w', Below wc.heap.size wc w' → ∀ k, k < 6 → w'.cell? ⟨B, k, none⟩ = some (.bool (Fm.compares ((k : Int) + 1) x n))) := fun w' h k hk => by
      rw [(h.cell (p := ⟨B, k, none⟩) (Array.getElem?_eq_some_iff.1 h5.out.2).1), Joins.cell_of_block h5.out.2]
      have : k = 0 ∨ k = 1 ∨ k = 2 ∨ k = 3 ∨ k = 4 ∨ k = 5 := by omega
      rcases this with rfl | rfl | rfl | rfl | rfl | rfl <;> simp [Fm.compares] <;> rfl
    have HQ : Hid (∀ w', Below wc.heap.size wc w' → w'.cell? ⟨w.heap.size, 0, none⟩ = some (.slice (some ⟨ga, oa, none⟩) nd vc) ∧ w'.cell? ⟨ga, oa + i * 4, none⟩ = some (.string s)) := fun w' h => ⟨(B5.out.next h).cell, ((B5.out.below.trans (h.mono B5.out.below.size)).cell (p := ⟨ga, oa + i * 4, none⟩) hgl).trans q0⟩
    have HTST : Hid (∀ (k : Int) w', Calls Try.prog 30 #[.string s, .int .i64 k, .int .i64 n] w' fun e w'' => e = .returned (Fm.fv (Fm.tst f.name k n) (.slice none 0 0)) ∧ Below w'.heap.size w' w'') := fun k w' => by rw [hfs]; exact test_walk f.name k n w'
    have HNAME : f.name.length ≤ 9223372036854775807 := ((HD.out w (Below.refl _ _)).1.sized f (List.mem_of_getElem? hf)).1
    have HH : Hid (∀ (k : Int) (z : Bool) w', -9223372036854775808 ≤ k ∧ k ≤ 9223372036854775807 → Below wc.heap.size wc w' → z = Fm.holdsB d c [] (Fm.tst f.name k n) → Calls Try.prog 25 #[Fm.fv (Fm.tst f.name k n) (.slice none 0 0), .agg #[.slice (some ⟨ga, oa, none⟩) nd vc], .slice (some ⟨g, o, none⟩) nd cc, .slice none 0 0] w' fun e w'' => e = .returned (.bool z) ∧ Below w'.heap.size w' w'') := fun k z w' hk h hz => by
      have hb := B5.out.below.trans (h.mono B5.out.below.size)
      rw [hz]
      exact holds_walk _ _ _ _ _ d c [] w' (Fm.At.leaf ⟨by show Fm.I64 3; unfold Fm.I64; decide, HNAME, hk, hn1, hn2⟩ rfl) (by show Fm.size (Fm.Fo.mk 3 f.name k n []) ≤ _; rw [Fm.size, Fm.sizeL]; decide) (HD.out w' hb).1 (HD.out w' hb).2 (Fm.IsT.nil _)
    have HV : Hid (∀ k : Nat, k < 6 → Fm.holdsB d c [] (Fm.tst f.name ((k : Int) + 1) n) = Fm.compares ((k : Int) + 1) x n) := fun k hk => by rw [HX.out]; exact Fm.tst_holds HFIT.out hf (by omega) (by omega) (by omega) (by omega)
    have HFAR : Hid (∀ w', Below wc.heap.size wc w' → Below w.heap.size w w') := fun w' h => B5.out.below.trans (h.mono B5.out.below.size)
    clear c5 B4 d4 h5 B5 hs hlen hf hfs hva hgl hfc q0 HNAME HD HM HX HFIT hc4l hrem HI
    go_wp2_with fail
    go_loopw [12] (fun i wr => ∃ k : Nat, k ≤ 6 ∧ i = .int .i64 k ∧ Hid (Below wc.heap.size wc wr)) (fun i _ => 6 - (intOf i).toNat)
    case atStart => exact ⟨0, by omega, rfl, Below.refl _ _⟩
    case round =>
      obtain ⟨k, hk, rfl, hb⟩ := hrel
      by_cases hlt : k < 6
      · have hki : (k : Int) < 6 := by omega
        have hkm : (k : Int) + 1 ≤ 9223372036854775807 := by omega
        have hk0 : (0 : Int) ≤ (k : Int) := by omega
        have hkb : -9223372036854775808 ≤ (k : Int) + 1 ∧ (k : Int) + 1 ≤ 9223372036854775807 := by omega
        have hs : IntKind.i64.wrap ((k : Int) + 1) = (k : Int) + 1 := IntWalk.i64_in _ (by omega)
        obtain ⟨z, hz⟩ : ∃ z, z = Fm.compares ((k : Int) + 1) x n := ⟨_, rfl⟩
        have hzh : z = Fm.holdsB d c [] (Fm.tst f.name ((k : Int) + 1) n) := by rw [hz, HV.out k hlt]
        have e0 : ∀ w', Below wr.heap.size wr w' → w'.cell? ⟨w.heap.size, 0, none⟩ = some (.slice (some ⟨ga, oa, none⟩) nd vc) := fun w' h => (HQ.out w' (below_step h hb.out)).1
        have e1 : ∀ w', Below wr.heap.size wr w' → w'.cell? ⟨ga, oa + i * 4, none⟩ = some (.string s) := fun w' h => (HQ.out w' (below_step h hb.out)).2
        have e2 : ∀ w', Below wr.heap.size wr w' → w'.cell? ⟨B, k, none⟩ = some (.bool z) := fun w' h => by rw [hz]; exact WANT.out w' (below_step h hb.out) k hlt
        have HHK : Hid (∀ w', Below wr.heap.size wr w' → Calls Try.prog 25 #[Fm.fv (Fm.tst f.name ((k : Int) + 1) n) (.slice none 0 0), .agg #[.slice (some ⟨ga, oa, none⟩) nd vc], .slice (some ⟨g, o, none⟩) nd cc, .slice none 0 0] w' fun e w'' => e = .returned (.bool z) ∧ Below w'.heap.size w' w'') := fun w' h => HH.out _ z w' hkb (below_step h hb.out) hzh
        clear hz hzh hkb
        go_wp2_with fail
        go_cut [108] from 91 to 107 (fun y wx => y = .bool false ∧ Hid (Below wc.heap.size wc wx))
        case first =>
          go_region_held3 (fun w' => Below wr.heap.size wr w') (first | exact (Below.refl _ _).drew | exact Below.refl _ _ | with_reducible assumption | exact below_step (by with_reducible assumption) (by with_reducible assumption))
            (first
              | (go_at_call 30; (with_reducible refine (HTST.out _ _).mono ?_); rintro e v1 ⟨rfl, hv1⟩; have s1 := below_step (W := wr) hv1 (by first | exact (Below.refl _ _).drew | with_reducible assumption))
              | (go_at_call 25; (with_reducible refine (HHK.out _ (by with_reducible assumption)).mono ?_); rintro e v2 ⟨rfl, hv2⟩; have s2 := below_step (W := wr) hv2 (by with_reducible assumption)))
          all_goals (go_wp2_with fail; go_meet)
          exact ⟨rfl, below_step s2 hb.out⟩
        case rest =>
          obtain ⟨rfl, hb6⟩ := hcut
          clear e0 e1 e2 HHK hs
          go_wp2_with fail
          go_roundw
          case rel => exact ⟨k + 1, by omega, by go_num, hb6⟩
          case measure => simp [intOf]; omega
      · obtain rfl : k = 6 := by omega
        have hki : ¬ ((6 : Nat) : Int) < 6 := by omega
        have e0 : ∀ w', Below wr.heap.size wr w' → w'.cell? ⟨w.heap.size, 0, none⟩ = some (.slice (some ⟨ga, oa, none⟩) nd vc) := fun w' h => (HQ.out w' (below_step h hb.out)).1
        have e1 : ∀ w', Below wr.heap.size wr w' → w'.cell? ⟨ga, oa + i * 4, none⟩ = some (.string s) := fun w' h => (HQ.out w' (below_step h hb.out)).2
        have HH7 : Hid (∀ w', Below wr.heap.size wr w' → Calls Try.prog 25 #[Fm.fv (Fm.tst f.name 7 n) (.slice none 0 0), .agg #[.slice (some ⟨ga, oa, none⟩) nd vc], .slice (some ⟨g, o, none⟩) nd cc, .slice none 0 0] w' fun e w'' => e = .returned (.bool false) ∧ Below w'.heap.size w' w'') := fun w' h => HH.out _ false w' (by decide) (below_step h hb.out) (Fm.tst_bad (by omega)).symm
        have HH0 : Hid (∀ w', Below wr.heap.size wr w' → Calls Try.prog 25 #[Fm.fv (Fm.tst f.name 0 n) (.slice none 0 0), .agg #[.slice (some ⟨ga, oa, none⟩) nd vc], .slice (some ⟨g, o, none⟩) nd cc, .slice none 0 0] w' fun e w'' => e = .returned (.bool false) ∧ Below w'.heap.size w' w'') := fun w' h => HH.out _ false w' (by decide) (below_step h hb.out) (Fm.tst_bad (by omega)).symm
        go_upto_region 11 with fail
        go_region_held3 (fun w' => Below wr.heap.size wr w') (first | exact (Below.refl _ _).drew | exact Below.refl _ _ | with_reducible assumption | exact below_step (by with_reducible assumption) (by with_reducible assumption))
          (first
            | (go_at_call 30; (with_reducible refine (HTST.out _ _).mono ?_); rintro e v1 ⟨rfl, hv1⟩; have s1 := below_step (W := wr) hv1 (by first | exact (Below.refl _ _).drew | with_reducible assumption))
            | (go_at_call 25; (with_reducible refine (HH7.out _ (by with_reducible assumption)).mono ?_); rintro e v2 ⟨rfl, hv2⟩; have s2 := below_step (W := wr) hv2 (by with_reducible assumption))
            | (go_at_call 25; (with_reducible refine (HH0.out _ (by with_reducible assumption)).mono ?_); rintro e v3 ⟨rfl, hv3⟩; have s3 := below_step (W := wr) hv3 (by with_reducible assumption)))
        all_goals go_wp2_with fail
        all_goals go_ret
        exact ⟨rfl, HFAR.out _ (below_step s3 hb.out)⟩

set_option maxRecDepth 100000 in
/-- What the walk gives, for all arguments and every world that holds the tables. -/
theorem contract (H : Type) (enc : TypeId × Value → H) (W : World) (base : Nat) (args : Array Value) (ds gs : List (DataW H)) (before : List MemPlace)
    (hval : ∀ (j : Nat) t v, Try.f5.params[j]? = some t → args[j]? = some v → Value.okWide Try.prog W .any base t v)
    (hW : DataW.Whole enc Try.prog Try.f5.params.toList Rows.formulaTestsSpec.vars false W args.toList ds gs before) :
    Calls Try.prog 5 args W fun e W' => ∃ v, e = .returned v ∧ Rows.formulaTestsSpec.post enc Try.prog Try.f5 false true false false W args v W' := by
  have hW' := hW
  obtain ⟨p, q, hA0, hV, rfl, hfz, hnd⟩ := hW
  have hA : DataW.TrodAll enc Try.prog W 0 (fun _ => true) true Try.f5.params.toList args.toList ds p := hA0
  rw [Try.params5] at hA hval
  obtain ⟨v0, vs0, d0, ds0, p0, q0, hargs, rfl, rfl, h0, r0⟩ := trodAll_cons hA
  obtain ⟨v1, vs1, d1, ds1, p1, q1, rfl, rfl, rfl, h1, r1⟩ := trodAll_cons r0
  obtain ⟨v2, vs2, d2, ds2, p2, q2, rfl, rfl, rfl, h2, r2⟩ := trodAll_cons r1
  obtain ⟨v3, vs3, d3, ds3, p3, q3, rfl, rfl, rfl, h3, r3⟩ := trodAll_cons r2
  obtain ⟨rfl, rfl, rfl⟩ := trodAll_nil r3
  obtain rfl : args = #[v0, v1, v2, v3] := by cases args; simp_all
  obtain ⟨rfl, rfl⟩ := trodVars_none hV
  obtain ⟨u0, l0, rfl, t0⟩ := open_domain (hval 0 27 v0 rfl rfl) h0
  obtain ⟨l1, t1⟩ := open_case (hval 1 29 v1 rfl rfl) h1
  obtain ⟨z2, rfl, _, _, g2⟩ := open_int Try.underlying5 (hval 2 5 v2 rfl rfl) h2
  obtain ⟨n2, rfl⟩ := Int.eq_ofNat_of_zero_le (bounds_u8 g2).1
  obtain ⟨z3, rfl, _, _, g3⟩ := open_int Try.underlying3 (hval 3 3 v3 rfl rfl) h3
  refine (law_walk u0 l0 v1 l1 n2 z3 W t0 t1 (Int.ofNat_le.1 (bounds_u8 g2).2) (bounds_i64 g3).1 (bounds_i64 g3).2).mono fun e W' ⟨he, hg⟩ => ?_
  subst he
  exact ⟨_, rfl, post_law rfl rfl rfl rfl rfl (by rw [Try.params5]; decide) hW' hg⟩

theorem laid_met (os : Os) : laidMet Try.prog Rows.formulaTestsRow.laid ((laidWorld os).forCall (fun _ _ => 0) ⟨#[], #[.agg #[.slice none 0 0], .slice none 0 0, .int .u8 0, .int .i64 0], []⟩).memory :=
  laidMet_of_run' 8 (by kernel_rfl) (by kernel_rfl)
theorem reads (os : Os) {H : Type} (enc : TypeId × Value → H) : ∃ places, DataW.whole enc Try.prog ((laidWorld os).forCall (fun _ _ => 0) ⟨#[], #[.agg #[.slice none 0 0], .slice none 0 0, .int .u8 0, .int .i64 0], []⟩).memory Try.f5.params.toList Rows.formulaTestsSpec.vars false #[Value.agg #[.slice none 0 0], Value.slice none 0 0, Value.int .u8 0, Value.int .i64 0].toList 8 = some ([.agg [.nil], .nil, .lit (.int .u8 0), .lit (.int .i64 0)], [], places) :=
  ⟨[], by kernel_rfl⟩

set_option maxRecDepth 100000 in
theorem lifted (os : Os) (started : os.Started) (H : Type) (enc : TypeId × Value → H) (F : Stop.Interp) :
    ReturnsInHanded {} Try.checked os 5 .any ((OpenSpec.ofChange Rows.formulaTestsSpec).preRow enc Try.prog Try.f5 Rows.formulaTestsRow.domain false Rows.formulaTestsRow.laid) (((OpenSpec.ofChange Rows.formulaTestsSpec).at F).post enc Try.prog Try.f5 false true false false) := by
  obtain ⟨places, hx⟩ := reads os enc
  refine returnsInHanded_of_row (C := Try.checked) (s := OpenSpec.ofChange Rows.formulaTestsSpec) own started (by kernel_rfl) Try.func5
    (witness_row_at (enc := enc) (C := Try.checked) false (laidWorld os) #[.agg #[.slice none 0 0], .slice none 0 0, .int .u8 0, .int .i64 0] rfl (by kernel_rfl) (by kernel_rfl) (by kernel_rfl)
      (OpenSpec.preRow_of_cond 8 hx (by kernel_rfl) (fun k hk => by cases hk) (by kernel_rfl) (laid_met os))) ?_
  intro W base args ds gs before hval hW _ _ _ hL _ _
  exact contract H enc W base args ds gs before hval hW

theorem said : Rows.FormulaTestsSaid :=
  OpenClaim.holds_of_cond 5 Try.f5 rfl rfl rfl rfl rfl rfl rfl ⟨rfl, rfl, rfl, rfl, rfl⟩ rfl rfl rfl rfl rfl (by kernel_rfl) Try.func5 (by kernel_rfl)
    (of_decide_eq_true (by kernel_rfl)) (by unfold Func.isWrapper; first | (rw [if_pos (by decide +kernel)]; kernel_rfl) | (rw [if_neg (by decide +kernel)]; exact ⟨rfl, rfl⟩))
    (fun os started H enc _ F => by rw [OpenClaim.pre_eq_preRow]; exact lifted os started H enc F)

end Go.Proofs.Ytjcaingfeaaakaa.formulaTests
