/-
  CalendarDates: for every date and day the call returns true and its arguments stay, where the four tables hold what the program's text lays.
-/
import Derived.Test.YthikonibmpngmaaDoorLFrameC
namespace Go.Proofs.YthikonibmpngmaaDoor.calendarDates
open Go.ChangeShapes Go.WideShapes Go.ChangeAt Go.RowKit

theorem dates_400 {n y m d : Int} (h : Cal.IsDate n y m d) : (n + 146097 ≤ 1000000 → Cal.dv (y + 400) m d = n + 146097 ∧ Cal.de (y + 400) m d = 0) ∧ (¬ n + 146097 ≤ 1000000 → Cal.dv (y + 400) m d = 0 ∧ Cal.de (y + 400) m d = 10) := by
  obtain ⟨a, b, ⟨c1, c2, c3, c4⟩, e⟩ := h
  have hl := Cal.len_400 y m a (by omega)
  have hn := Cal.num_400 y m d a (by omega)
  have hv : 1 ≤ m ∧ m ≤ 12 ∧ 1 ≤ d ∧ d ≤ Cal.len (y + 400) m := ⟨c1, c2, c3, by omega⟩
  unfold Cal.dv Cal.de
  constructor
  · intro h
    rw [if_pos ⟨hv, by omega, by omega, by omega⟩, if_pos hv, if_pos ⟨by omega, by omega, by omega⟩]
    omega
  · intro h
    rw [if_neg (by omega), if_pos hv, if_neg (by omega)]
    omega

/-- The second part's ways: no day; the last one; another one with its next date. -/
theorem day_ways (n : Int) : ¬ (0 ≤ n ∧ n ≤ 1000000) ∨ n = 1000000 ∨ (0 ≤ n ∧ n < 1000000) := by omega

set_option maxHeartbeats 8000000 in
set_option maxRecDepth 100000 in
theorem law_walk (y m d n : Int) (w : World) (_by1 : -9223372036854775808 ≤ y) (_by2 : y ≤ 9223372036854775807) (_bm1 : -9223372036854775808 ≤ m) (_bm2 : m ≤ 9223372036854775807) (_bd1 : -9223372036854775808 ≤ d) (_bd2 : d ≤ 9223372036854775807)
    (bn1 : -9223372036854775808 ≤ n) (bn2 : n ≤ 9223372036854775807) (ht : HasTab w) :
    Calls Tryd.prog 5 #[.int .i64 y, .int .i64 m, .int .i64 d, .int .i64 n] w fun e w' => e = .returned (.bool true) ∧ Below w.heap.size w w' := by
  have HT := Lib.hid ht
  clear ht _by1 _by2 _bm1 _bm2 _bd1 _bd2
  go_enter Tryd.func5, Tryd.ntmps5
  go_wp2_with fail
  refine (head_walk _ HT.out).mono ?_
  rintro e w1 ⟨rfl, hb⟩
  have HB := Lib.hid hb
  have HT1 := Lib.hid (HT.out.below hb)
  clear hb HT
  go_wp2_with fail
  refine (day_walk y m d _ HT1.out).mono ?_
  rintro e w' ⟨v, er, rfl, hR, rfl⟩
  by_cases her : er = 0
  · subst her
    have hD : Cal.IsDate v y m d ∧ v ≤ 1000000 := by
      have := hR.det
      rw [this.1]
      exact Cal.de_zero this.2.symm
    have HD0 := Lib.hid hD.1
    have hv1 := hD.2
    have hv0 := hD.1.ge
    have hy := hD.1.1
    have hy2 := hD.1.2.1
    have H4 := Lib.hid (dates_400 hD.1)
    clear hD hR
    go_wp2_with fail
    refine (date_is (.inl ⟨hv0, hv1, HD0.out, rfl⟩) _ HT1.out).mono ?_
    rintro e w' ⟨rfl, rfl⟩
    by_cases h4 : v + 146097 ≤ 1000000
    · go_wp2_with fail
      refine (day_is (H4.out.1 h4).1 (H4.out.1 h4).2 _ HT1.out).mono ?_
      rintro e w' ⟨rfl, rfl⟩
      go_wp2_with fail
      rcases day_ways n with hn | hn | hn
      · have HN := Lib.hid hn
        by_cases h1 : n < 0
        · clear hn
          refine (date_is (.inr ⟨HN.out, rfl, rfl, rfl, rfl⟩) _ HT1.out).mono ?_
          rintro e w' ⟨rfl, rfl⟩
          go_wp2_with fail
          go_ret
          exact ⟨rfl, HB.out⟩
        · have h2 : 1000000 < n := by omega
          clear hn
          refine (date_is (.inr ⟨HN.out, rfl, rfl, rfl, rfl⟩) _ HT1.out).mono ?_
          rintro e w' ⟨rfl, rfl⟩
          go_wp2_with fail
          go_ret
          exact ⟨rfl, HB.out⟩
      · refine (date_ok n _ (by omega) (by omega) HT1.out).mono ?_
        rintro e w' ⟨a, b, c, er2, rfl, ⟨hd, rfl⟩, rfl⟩
        have HD := Lib.hid hd
        clear hd
        subst hn
        go_wp2_with fail
        refine (day_is (Cal.dv_date HD.out (by omega)).1 (Cal.dv_date HD.out (by omega)).2 _ HT1.out).mono ?_
        rintro e w' ⟨rfl, rfl⟩
        go_wp2_with fail
        go_ret
        exact ⟨rfl, HB.out⟩
      · have hn3 : (n == 1000000) = false := by simp; omega
        refine (date_ok n _ (by omega) (by omega) HT1.out).mono ?_
        rintro e w' ⟨a, b, c, er2, rfl, ⟨hd, rfl⟩, rfl⟩
        have HD := Lib.hid hd
        obtain ⟨a1, a2, ⟨b1, b2, c1, c2⟩, _⟩ := hd
        have hl := Cal.len_bd a b
        clear c2
        go_wp2_with fail
        refine (day_is (Cal.dv_date HD.out (by omega)).1 (Cal.dv_date HD.out (by omega)).2 _ HT1.out).mono ?_
        rintro e w' ⟨rfl, rfl⟩
        go_wp2_with fail
        refine (date_ok (n + 1) _ (by omega) (by omega) HT1.out).mono ?_
        rintro e w' ⟨a', b', c', er3, rfl, ⟨hd', rfl⟩, rfl⟩
        have hc : c ≤ 31 := by have := HD.out.2.2.1.2.2.2; omega
        rcases Cal.next_date HD.out hd' with ⟨rfl, rfl, rfl⟩ | ⟨rfl, rfl, rfl⟩ | ⟨rfl, rfl, rfl, rfl⟩
        · clear hd'
          go_wp2_with fail
          go_ret
          exact ⟨rfl, HB.out⟩
        · have q1 : (b + 1 == b) = false := by simp; omega
          clear hd'
          go_wp2_with fail
          go_ret
          exact ⟨rfl, HB.out⟩
        · have q1 : (a + 1 == a) = false := by simp; omega
          clear hd'
          go_wp2_with fail
          go_ret
          exact ⟨rfl, HB.out⟩
    · go_wp2_with fail
      refine (day_is (H4.out.2 h4).1 (H4.out.2 h4).2 _ HT1.out).mono ?_
      rintro e w' ⟨rfl, rfl⟩
      go_wp2_with fail
      rcases day_ways n with hn | hn | hn
      · have HN := Lib.hid hn
        by_cases h1 : n < 0
        · clear hn
          refine (date_is (.inr ⟨HN.out, rfl, rfl, rfl, rfl⟩) _ HT1.out).mono ?_
          rintro e w' ⟨rfl, rfl⟩
          go_wp2_with fail
          go_ret
          exact ⟨rfl, HB.out⟩
        · have h2 : 1000000 < n := by omega
          clear hn
          refine (date_is (.inr ⟨HN.out, rfl, rfl, rfl, rfl⟩) _ HT1.out).mono ?_
          rintro e w' ⟨rfl, rfl⟩
          go_wp2_with fail
          go_ret
          exact ⟨rfl, HB.out⟩
      · refine (date_ok n _ (by omega) (by omega) HT1.out).mono ?_
        rintro e w' ⟨a, b, c, er2, rfl, ⟨hd, rfl⟩, rfl⟩
        have HD := Lib.hid hd
        clear hd
        subst hn
        go_wp2_with fail
        refine (day_is (Cal.dv_date HD.out (by omega)).1 (Cal.dv_date HD.out (by omega)).2 _ HT1.out).mono ?_
        rintro e w' ⟨rfl, rfl⟩
        go_wp2_with fail
        go_ret
        exact ⟨rfl, HB.out⟩
      · have hn3 : (n == 1000000) = false := by simp; omega
        refine (date_ok n _ (by omega) (by omega) HT1.out).mono ?_
        rintro e w' ⟨a, b, c, er2, rfl, ⟨hd, rfl⟩, rfl⟩
        have HD := Lib.hid hd
        obtain ⟨a1, a2, ⟨b1, b2, c1, c2⟩, _⟩ := hd
        have hl := Cal.len_bd a b
        clear c2
        go_wp2_with fail
        refine (day_is (Cal.dv_date HD.out (by omega)).1 (Cal.dv_date HD.out (by omega)).2 _ HT1.out).mono ?_
        rintro e w' ⟨rfl, rfl⟩
        go_wp2_with fail
        refine (date_ok (n + 1) _ (by omega) (by omega) HT1.out).mono ?_
        rintro e w' ⟨a', b', c', er3, rfl, ⟨hd', rfl⟩, rfl⟩
        have hc : c ≤ 31 := by have := HD.out.2.2.1.2.2.2; omega
        rcases Cal.next_date HD.out hd' with ⟨rfl, rfl, rfl⟩ | ⟨rfl, rfl, rfl⟩ | ⟨rfl, rfl, rfl, rfl⟩
        · clear hd'
          go_wp2_with fail
          go_ret
          exact ⟨rfl, HB.out⟩
        · have q1 : (b + 1 == b) = false := by simp; omega
          clear hd'
          go_wp2_with fail
          go_ret
          exact ⟨rfl, HB.out⟩
        · have q1 : (a + 1 == a) = false := by simp; omega
          clear hd'
          go_wp2_with fail
          go_ret
          exact ⟨rfl, HB.out⟩
  · have hq : (er == 0) = false := by simpa using her
    clear hR her
    go_wp2_with fail
    rcases day_ways n with hn | hn | hn
    · have HN := Lib.hid hn
      by_cases h1 : n < 0
      · clear hn
        refine (date_is (.inr ⟨HN.out, rfl, rfl, rfl, rfl⟩) _ HT1.out).mono ?_
        rintro e w' ⟨rfl, rfl⟩
        go_wp2_with fail
        go_ret
        exact ⟨rfl, HB.out⟩
      · have h2 : 1000000 < n := by omega
        clear hn
        refine (date_is (.inr ⟨HN.out, rfl, rfl, rfl, rfl⟩) _ HT1.out).mono ?_
        rintro e w' ⟨rfl, rfl⟩
        go_wp2_with fail
        go_ret
        exact ⟨rfl, HB.out⟩
    · refine (date_ok n _ (by omega) (by omega) HT1.out).mono ?_
      rintro e w' ⟨a, b, c, er2, rfl, ⟨hd, rfl⟩, rfl⟩
      have HD := Lib.hid hd
      clear hd
      subst hn
      go_wp2_with fail
      refine (day_is (Cal.dv_date HD.out (by omega)).1 (Cal.dv_date HD.out (by omega)).2 _ HT1.out).mono ?_
      rintro e w' ⟨rfl, rfl⟩
      go_wp2_with fail
      go_ret
      exact ⟨rfl, HB.out⟩
    · have hn3 : (n == 1000000) = false := by simp; omega
      refine (date_ok n _ (by omega) (by omega) HT1.out).mono ?_
      rintro e w' ⟨a, b, c, er2, rfl, ⟨hd, rfl⟩, rfl⟩
      have HD := Lib.hid hd
      obtain ⟨a1, a2, ⟨b1, b2, c1, c2⟩, _⟩ := hd
      have hl := Cal.len_bd a b
      clear c2
      go_wp2_with fail
      refine (day_is (Cal.dv_date HD.out (by omega)).1 (Cal.dv_date HD.out (by omega)).2 _ HT1.out).mono ?_
      rintro e w' ⟨rfl, rfl⟩
      go_wp2_with fail
      refine (date_ok (n + 1) _ (by omega) (by omega) HT1.out).mono ?_
      rintro e w' ⟨a', b', c', er3, rfl, ⟨hd', rfl⟩, rfl⟩
      have hc : c ≤ 31 := by have := HD.out.2.2.1.2.2.2; omega
      rcases Cal.next_date HD.out hd' with ⟨rfl, rfl, rfl⟩ | ⟨rfl, rfl, rfl⟩ | ⟨rfl, rfl, rfl, rfl⟩
      · clear hd'
        go_wp2_with fail
        go_ret
        exact ⟨rfl, HB.out⟩
      · have q1 : (b + 1 == b) = false := by simp; omega
        clear hd'
        go_wp2_with fail
        go_ret
        exact ⟨rfl, HB.out⟩
      · have q1 : (a + 1 == a) = false := by simp; omega
        clear hd'
        go_wp2_with fail
        go_ret
        exact ⟨rfl, HB.out⟩

set_option maxRecDepth 100000 in
/-- What the walk gives, for all arguments and every world that holds the tables. -/
theorem contract (H : Type) (enc : TypeId × Value → H) (W : World) (base : Nat) (args : Array Value) (ds gs : List (DataW H)) (before : List MemPlace)
    (hval : ∀ (j : Nat) t v, Tryd.f5.params[j]? = some t → args[j]? = some v → Value.okWide Tryd.prog W .any base t v)
    (hW : DataW.Whole enc Tryd.prog Tryd.f5.params.toList Rows.calendarDatesSpec.vars false W args.toList ds gs before) (hL : laidMetH Tryd.prog laidAll W) :
    Calls Tryd.prog 5 args W fun e W' => ∃ v, e = .returned v ∧ Rows.calendarDatesSpec.post enc Tryd.prog Tryd.f5 false true false false W args v W' := by
  have hW' := hW
  obtain ⟨p, q, hA0, hV, rfl, hfz, hnd⟩ := hW
  have hA : DataW.TrodAll enc Tryd.prog W 0 (fun _ => true) true Tryd.f5.params.toList args.toList ds p := hA0
  rw [Tryd.params5] at hA hval
  obtain ⟨v0, vs0, d0, ds0, p0, q0, hargs, rfl, rfl, h0, r0⟩ := trodAll_cons hA
  obtain ⟨v1, vs1, d1, ds1, p1, q1, rfl, rfl, rfl, h1, r1⟩ := trodAll_cons r0
  obtain ⟨v2, vs2, d2, ds2, p2, q2, rfl, rfl, rfl, h2, r2⟩ := trodAll_cons r1
  obtain ⟨v3, vs3, d3, ds3, p3, q3, rfl, rfl, rfl, h3, r3⟩ := trodAll_cons r2
  obtain ⟨rfl, rfl, rfl⟩ := trodAll_nil r3
  obtain rfl : args = #[v0, v1, v2, v3] := by cases args; simp_all
  obtain ⟨rfl, rfl⟩ := trodVars_none hV
  obtain ⟨z0, rfl, _, _, g0⟩ := open_int Tryd.underlying3 (hval 0 3 v0 rfl rfl) h0
  obtain ⟨z1, rfl, _, _, g1⟩ := open_int Tryd.underlying3 (hval 1 3 v1 rfl rfl) h1
  obtain ⟨z2, rfl, _, _, g2⟩ := open_int Tryd.underlying3 (hval 2 3 v2 rfl rfl) h2
  obtain ⟨z3, rfl, _, _, g3⟩ := open_int Tryd.underlying3 (hval 3 3 v3 rfl rfl) h3
  refine (law_walk z0 z1 z2 z3 W (bounds_i64 g0).1 (bounds_i64 g0).2 (bounds_i64 g1).1 (bounds_i64 g1).2 (bounds_i64 g2).1 (bounds_i64 g2).2 (bounds_i64 g3).1 (bounds_i64 g3).2 (hasTab hL)).mono fun e W' ⟨he, hg⟩ => ?_
  subst he
  exact ⟨_, rfl, post_law rfl rfl rfl rfl rfl (by rw [Tryd.params5]; decide) hW' hg⟩

theorem laid_met (os : Os) : laidMet Tryd.prog Rows.calendarDatesRow.laid ((laidWorld os).forCall (fun _ _ => 0) ⟨#[], #[.int .i64 0, .int .i64 0, .int .i64 0, .int .i64 0], []⟩).memory :=
  laidMet_of_run' 8 (by kernel_rfl) (by kernel_rfl)
theorem reads (os : Os) {H : Type} (enc : TypeId × Value → H) : ∃ places, DataW.whole enc Tryd.prog ((laidWorld os).forCall (fun _ _ => 0) ⟨#[], #[.int .i64 0, .int .i64 0, .int .i64 0, .int .i64 0], []⟩).memory Tryd.f5.params.toList Rows.calendarDatesSpec.vars false #[Value.int .i64 0, Value.int .i64 0, Value.int .i64 0, Value.int .i64 0].toList 8 = some ([.lit (.int .i64 0), .lit (.int .i64 0), .lit (.int .i64 0), .lit (.int .i64 0)], [], places) :=
  ⟨[], by kernel_rfl⟩

set_option maxRecDepth 100000 in
theorem lifted (os : Os) (started : os.Started) (H : Type) (enc : TypeId × Value → H) (F : Stop.Interp) :
    ReturnsInHanded {} Tryd.checked os 5 .any ((OpenSpec.ofChange Rows.calendarDatesSpec).preRow enc Tryd.prog Tryd.f5 Rows.calendarDatesRow.domain false Rows.calendarDatesRow.laid) (((OpenSpec.ofChange Rows.calendarDatesSpec).at F).post enc Tryd.prog Tryd.f5 false true false false) := by
  obtain ⟨places, hx⟩ := reads os enc
  refine returnsInHanded_of_row (C := Tryd.checked) (s := OpenSpec.ofChange Rows.calendarDatesSpec) own started (by kernel_rfl) Tryd.func5
    (witness_row_at (enc := enc) (C := Tryd.checked) false (laidWorld os) #[.int .i64 0, .int .i64 0, .int .i64 0, .int .i64 0] rfl (by kernel_rfl) (by kernel_rfl) (by kernel_rfl)
      (OpenSpec.preRow_of_cond 8 hx (by kernel_rfl) (fun k hk => by cases hk) (by kernel_rfl) (laid_met os))) ?_
  intro W base args ds gs before hval hW _ _ _ hL _ _
  exact contract H enc W base args ds gs before hval hW hL

theorem said : Rows.CalendarDatesSaid :=
  OpenClaim.holds_of_cond 5 Tryd.f5 rfl rfl rfl rfl rfl rfl rfl ⟨rfl, rfl, rfl, rfl, rfl⟩ rfl rfl rfl rfl rfl (by kernel_rfl) Tryd.func5 (by kernel_rfl)
    (of_decide_eq_true (by kernel_rfl)) (by unfold Func.isWrapper; first | (rw [if_pos (by decide +kernel)]; kernel_rfl) | (rw [if_neg (by decide +kernel)]; exact ⟨rfl, rfl⟩))
    (fun os started H enc _ F => by rw [OpenClaim.pre_eq_preRow]; exact lifted os started H enc F)

set_option maxRecDepth 100000 in
/-- No parameter wants a stand-in; the program's own looks are off: what the card asks. -/
theorem plain (f : FuncId) (fn : Func) (hf : Tryd.pinned.checked.prog.funcNamed "pandect/pandectlaw04.CalendarDates" = some f) (hfn : Tryd.pinned.checked.prog.funcs[f]? = some fn) :
    false = Tryd.pinned.checked.prog.looks [] ∧ ∀ (j : Nat) t, fn.params[j]? = some t → Tryd.pinned.checked.prog.wantsStandIn t = false := by
  obtain rfl : f = 5 := Option.some.inj ((show Tryd.prog.funcNamed "pandect/pandectlaw04.CalendarDates" = some 5 by kernel_rfl).symm.trans hf) |>.symm
  obtain rfl : fn = Tryd.f5 := (Option.some.inj (Tryd.func5.symm.trans hfn)).symm
  refine ⟨by kernel_rfl, fun j t ht => ?_⟩
  rw [Tryd.params5] at ht
  have hm := Array.mem_of_getElem? ht
  simp only [List.mem_toArray, List.mem_cons, List.not_mem_nil, or_false] at hm
  rcases hm with rfl | rfl | rfl | rfl
  · exact wants_int
  · exact wants_int
  · exact wants_int
  · exact wants_int

theorem card : Rows.CalendarDatesCardSaid :=
  Claim7.holds_tied_plain_at .later [] _ _ _ _ said (fun _ h => by cases h) (by kernel_rfl) (fun _ h => by cases h) calendarDates_row_tie rfl ⟨rfl, rfl⟩ (by kernel_rfl) rfl plain (by kernel_rfl)
end Go.Proofs.YthikonibmpngmaaDoor.calendarDates
