/-
  CalendarMatchesReference: for every date, day, text, term and closed days the call returns true and its arguments stay, where the four tables hold what the program's text lays.
-/
import Derived.Test.YthikonibmpngmaaDoorLFrameC
import Derived.Test.YthikonibmpngmaaDoorCRefAdd3
import Derived.Test.YthikonibmpngmaaDoorCRefTxt
import Derived.Test.YthikonibmpngmaaDoorCRefParse
import Derived.Laws.Strings
namespace Go.Proofs.YthikonibmpngmaaDoor.calendarMatchesReference
open Go.ChangeShapes Go.WideShapes Go.ChangeAt Go.RowKit
open Go.ChangeMaps (open_string shut_string)

set_option maxHeartbeats 8000000 in
set_option maxRecDepth 100000 in
theorem law_walk (year month date day : Int) (x : ByteArray) (n u : Int) (v : Value) (l : List Int) (w : World) (_y1 : -9223372036854775808 ≤ year) (_y2 : year ≤ 9223372036854775807) (_m1 : -9223372036854775808 ≤ month) (_m2 : month ≤ 9223372036854775807) (_e1 : -9223372036854775808 ≤ date) (_e2 : date ≤ 9223372036854775807) (_d1 : -9223372036854775808 ≤ day) (_d2 : day ≤ 9223372036854775807) (hx : x.size ≤ 9223372036854775807) (_hn : -9223372036854775808 ≤ n ∧ n ≤ 9223372036854775807) (_hu : -9223372036854775808 ≤ u ∧ u ≤ 9223372036854775807)
    (hv : IsNums w v l) (ht : HasTab w) :
    Calls Tryd.prog 3 #[.int .i64 year, .int .i64 month, .int .i64 date, .int .i64 day, .string x, .agg #[.int .i64 n, .int .i64 u], v] w fun e w' => e = .returned (.bool true) ∧ Below w.heap.size w w' := by
  have hb1 := (Below.refl w.heap.size w).alloc (Nat.le_refl _) (.cells #[.int .i64 n, .int .i64 u] 23)
  have B1 := Lib.hid hb1
  have T1 := Lib.hid (HasTerm.new w n u)
  have HT := Lib.hid ht
  have HV := Lib.hid hv
  clear hb1 ht hv
  go_enter Tryd.func3, Tryd.ntmps3
  go_wp2_with fail
  refine (head_walk _ (HT.out.below B1.out)).mono ?_
  rintro e w2 ⟨rfl, hb⟩
  have T2 := Lib.hid (T1.out.below hb)
  have B2 := Lib.hid (B1.out.trans (hb.mono B1.out.size))
  clear hb
  have c0 := T2.out.c0
  have c1 := T2.out.c1
  by_cases hx40 : 40 < x.size
  · go_wp2_with fail
    go_ret
    exact ⟨rfl, B2.out⟩
  go_wp2_with fail
  refine (light_walk n u v l _ (HV.out.below B2.out)).mono ?_
  rintro e w3 ⟨rfl, hb⟩
  have T3 := Lib.hid (T2.out.below hb)
  have B3 := Lib.hid (B2.out.trans (hb.mono B2.out.size))
  clear hb c0 c1
  have c0 := T3.out.c0
  have c1 := T3.out.c1
  by_cases hl : (u ≠ 5 ∨ n ≤ 3000) ∧ l.length ≤ 60
  · rw [Cal.light_yes hl]
    clear hl
    go_wp2_with fail
    refine (day_walk year month date _ (HT.out.below B3.out)).mono ?_
    rintro e w' ⟨a, ea, rfl, hR1, rfl⟩
    go_wp2_with fail
    refine (refday_walk year month date _).mono ?_
    rintro e w4 ⟨b, eb, rfl, hR2, hb⟩
    obtain ⟨rfl, rfl⟩ : a = b ∧ ea = eb := ⟨hR1.det.1.trans hR2.det.1.symm, hR1.det.2.trans hR2.det.2.symm⟩
    have T4 := Lib.hid (T3.out.below hb)
    have B4 := Lib.hid (B3.out.trans (hb.mono B3.out.size))
    clear hb c0 c1 hR1 hR2
    have c0 := T4.out.c0
    have c1 := T4.out.c1
    go_wp2_with fail
    refine (date_walk day _ (HT.out.below B4.out)).mono ?_
    rintro e w' ⟨p1, p2, p3, p4, rfl, hR1, rfl⟩
    go_wp2_with fail
    refine (refdate_walk day _).mono ?_
    rintro e w5 ⟨q1, q2, q3, q4, rfl, hR2, hb⟩
    obtain ⟨rfl, rfl, rfl, rfl⟩ := hR1.uniq hR2
    have T5 := Lib.hid (T4.out.below hb)
    have B5 := Lib.hid (B4.out.trans (hb.mono B4.out.size))
    clear hb c0 c1 hR1 hR2
    have c0 := T5.out.c0
    have c1 := T5.out.c1
    go_wp2_with fail
    refine (parse_walk x hx _ (HT.out.below B5.out)).mono ?_
    rintro e w6 ⟨a2, e2, rfl, hR1, hb⟩
    have T6 := Lib.hid (T5.out.below hb)
    have B6 := Lib.hid (B5.out.trans (hb.mono B5.out.size))
    clear hb c0 c1
    have c0 := T6.out.c0
    have c1 := T6.out.c1
    go_wp2_with fail
    refine (refparse_walk x hx _).mono ?_
    rintro e w7 ⟨b2, f2, rfl, hR2, hb⟩
    obtain ⟨rfl, rfl⟩ := hR1.uniq hR2
    have T7 := Lib.hid (T6.out.below hb)
    have B7 := Lib.hid (B6.out.trans (hb.mono B6.out.size))
    clear hb c0 c1 hR1 hR2
    have c0 := T7.out.c0
    have c1 := T7.out.c1
    go_wp2_with fail
    refine (add_walk day n u v l _ (HT.out.below B7.out) (HV.out.below B7.out)).mono ?_
    rintro e w8 ⟨a3, e3, rfl, hR1, hb⟩
    have T8 := Lib.hid (T7.out.below hb)
    have B8 := Lib.hid (B7.out.trans (hb.mono B7.out.size))
    clear hb c0 c1
    have c0 := T8.out.c0
    have c1 := T8.out.c1
    go_wp2_with fail
    refine (refadd_walk day n u v l _ (HV.out.below B8.out)).mono ?_
    rintro e w9 ⟨b3, f3, rfl, hR2, hb⟩
    obtain ⟨rfl, rfl⟩ := hR1.uniq hR2
    have B9 := Lib.hid (B8.out.trans (hb.mono B8.out.size))
    clear hb c0 c1 hR1 hR2
    go_wp2_with fail
    refine (text_walk day _ (HT.out.below B9.out)).mono ?_
    rintro e w10 ⟨s1, rfl, hs1, hz1, hb⟩
    have B10 := Lib.hid (B9.out.trans (hb.mono B9.out.size))
    clear hb
    go_wp2_with fail
    refine (reftext_walk day _).mono ?_
    rintro e w11 ⟨s2, rfl, hs2, hz2, hb⟩
    obtain rfl : s1 = s2 := bytes_ext (hs1.out.uniq hs2.out)
    have B11 := Lib.hid (B10.out.trans (hb.mono B10.out.size))
    clear hb hs1 hs2 hz1 hz2
    go_wp2_with fail
    refine (weekday_walk day _).mono ?_
    rintro e w' ⟨rfl, rfl⟩
    go_wp2_with fail
    refine (refwday_walk day _).mono ?_
    rintro e w' ⟨rfl, rfl⟩
    go_wp2_with fail
    refine (work_walk day v l _ (HV.out.below B11.out)).mono ?_
    rintro e w' ⟨rfl, rfl⟩
    go_wp2_with fail
    refine (refwork_walk day v l _ (HV.out.below B11.out)).mono ?_
    rintro e w' ⟨rfl, rfl⟩
    go_wp2_with fail
    go_ret
    exact ⟨rfl, B11.out⟩
  · rw [Cal.light_no hl]
    clear hl
    go_wp2_with fail
    go_ret
    exact ⟨rfl, B3.out⟩

set_option maxRecDepth 100000 in
/-- What the walk gives, for all arguments and every world that holds the tables. -/
theorem contract (H : Type) (enc : TypeId × Value → H) (W : World) (base : Nat) (args : Array Value) (ds gs : List (DataW H)) (before : List MemPlace)
    (hval : ∀ (j : Nat) t v, Tryd.f3.params[j]? = some t → args[j]? = some v → Value.okWide Tryd.prog W .any base t v)
    (hW : DataW.Whole enc Tryd.prog Tryd.f3.params.toList Rows.calendarMatchesReferenceSpec.vars false W args.toList ds gs before) (hL : laidMetH Tryd.prog laidAll W) :
    Calls Tryd.prog 3 args W fun e W' => ∃ v, e = .returned v ∧ Rows.calendarMatchesReferenceSpec.post enc Tryd.prog Tryd.f3 false true false false W args v W' := by
  have hW' := hW
  obtain ⟨p, q, hA0, hV, rfl, hfz, hnd⟩ := hW
  have hA : DataW.TrodAll enc Tryd.prog W 0 (fun _ => true) true Tryd.f3.params.toList args.toList ds p := hA0
  rw [Tryd.params3] at hA hval
  obtain ⟨v0, vs0, d0, ds0, p0, q0, hargs, rfl, rfl, h0, r0⟩ := trodAll_cons hA
  obtain ⟨v1, vs1, d1, ds1, p1, q1, rfl, rfl, rfl, h1, r1⟩ := trodAll_cons r0
  obtain ⟨v2, vs2, d2, ds2, p2, q2, rfl, rfl, rfl, h2, r2⟩ := trodAll_cons r1
  obtain ⟨v3, vs3, d3, ds3, p3, q3, rfl, rfl, rfl, h3, r3⟩ := trodAll_cons r2
  obtain ⟨v4, vs4, d4, ds4, p4, q4, rfl, rfl, rfl, h4, r4⟩ := trodAll_cons r3
  obtain ⟨v5, vs5, d5, ds5, p5, q5, rfl, rfl, rfl, h5, r5⟩ := trodAll_cons r4
  obtain ⟨v6, vs6, d6, ds6, p6, q6, rfl, rfl, rfl, h6, r6⟩ := trodAll_cons r5
  obtain ⟨rfl, rfl, rfl⟩ := trodAll_nil r6
  obtain rfl : args = #[v0, v1, v2, v3, v4, v5, v6] := by cases args; simp_all
  obtain ⟨rfl, rfl⟩ := trodVars_none hV
  obtain ⟨z0, rfl, _, _, g0⟩ := open_int Tryd.underlying3 (hval 0 3 v0 rfl rfl) h0
  obtain ⟨z1, rfl, _, _, g1⟩ := open_int Tryd.underlying3 (hval 1 3 v1 rfl rfl) h1
  obtain ⟨z2, rfl, _, _, g2⟩ := open_int Tryd.underlying3 (hval 2 3 v2 rfl rfl) h2
  obtain ⟨z3, rfl, _, _, g3⟩ := open_int Tryd.underlying3 (hval 3 3 v3 rfl rfl) h3
  obtain ⟨a4, rfl, _, _, g4⟩ := open_string Tryd.underlying9 (hval 4 9 v4 rfl rfl) h4
  obtain ⟨n5, u5, rfl, x5, y5⟩ := open_term (hval 5 23 v5 rfl rfl) h5
  obtain ⟨l6, t6⟩ := open_nums (hval 6 24 v6 rfl rfl) h6
  refine (law_walk z0 z1 z2 z3 a4 n5 u5 v6 l6 W (bounds_i64 g0).1 (bounds_i64 g0).2 (bounds_i64 g1).1 (bounds_i64 g1).2 (bounds_i64 g2).1 (bounds_i64 g2).2 (bounds_i64 g3).1 (bounds_i64 g3).2 (le_of_max g4) x5 y5 t6 (hasTab hL)).mono fun e W' ⟨he, hg⟩ => ?_
  subst he
  exact ⟨_, rfl, post_law rfl rfl rfl rfl rfl (by rw [Tryd.params3]; decide) hW' hg⟩

theorem laid_met (os : Os) : laidMet Tryd.prog Rows.calendarMatchesReferenceRow.laid ((laidWorld os).forCall (fun _ _ => 0) ⟨#[], #[.int .i64 0, .int .i64 0, .int .i64 0, .int .i64 0, .string ⟨#[]⟩, .agg #[.int .i64 0, .int .i64 0], .slice none 0 0], []⟩).memory :=
  laidMet_of_run' 8 (by kernel_rfl) (by kernel_rfl)
theorem reads (os : Os) {H : Type} (enc : TypeId × Value → H) : ∃ places, DataW.whole enc Tryd.prog ((laidWorld os).forCall (fun _ _ => 0) ⟨#[], #[.int .i64 0, .int .i64 0, .int .i64 0, .int .i64 0, .string ⟨#[]⟩, .agg #[.int .i64 0, .int .i64 0], .slice none 0 0], []⟩).memory Tryd.f3.params.toList Rows.calendarMatchesReferenceSpec.vars false #[Value.int .i64 0, Value.int .i64 0, Value.int .i64 0, Value.int .i64 0, Value.string ⟨#[]⟩, Value.agg #[.int .i64 0, .int .i64 0], Value.slice none 0 0].toList 8 = some ([.lit (.int .i64 0), .lit (.int .i64 0), .lit (.int .i64 0), .lit (.int .i64 0), .lit (.string []), .agg [.lit (.int .i64 0), .lit (.int .i64 0)], .nil], [], places) :=
  ⟨[], by kernel_rfl⟩

set_option maxRecDepth 100000 in
theorem lifted (os : Os) (started : os.Started) (H : Type) (enc : TypeId × Value → H) (F : Stop.Interp) :
    ReturnsInHanded {} Tryd.checked os 3 .any ((OpenSpec.ofChange Rows.calendarMatchesReferenceSpec).preRow enc Tryd.prog Tryd.f3 Rows.calendarMatchesReferenceRow.domain false Rows.calendarMatchesReferenceRow.laid) (((OpenSpec.ofChange Rows.calendarMatchesReferenceSpec).at F).post enc Tryd.prog Tryd.f3 false true false false) := by
  obtain ⟨places, hx⟩ := reads os enc
  refine returnsInHanded_of_row (C := Tryd.checked) (s := OpenSpec.ofChange Rows.calendarMatchesReferenceSpec) own started (by kernel_rfl) Tryd.func3
    (witness_row_at (enc := enc) (C := Tryd.checked) false (laidWorld os) #[.int .i64 0, .int .i64 0, .int .i64 0, .int .i64 0, .string ⟨#[]⟩, .agg #[.int .i64 0, .int .i64 0], .slice none 0 0] rfl (by kernel_rfl) (by kernel_rfl) (by kernel_rfl)
      (OpenSpec.preRow_of_cond 8 hx (by kernel_rfl) (fun k hk => by cases hk) (by kernel_rfl) (laid_met os))) ?_
  intro W base args ds gs before hval hW _ _ _ hL _ _
  exact contract H enc W base args ds gs before hval hW hL

theorem said : Rows.CalendarMatchesReferenceSaid :=
  OpenClaim.holds_of_cond 3 Tryd.f3 rfl rfl rfl rfl rfl rfl rfl ⟨rfl, rfl, rfl, rfl, rfl⟩ rfl rfl rfl rfl rfl (by kernel_rfl) Tryd.func3 (by kernel_rfl)
    (of_decide_eq_true (by kernel_rfl)) (by unfold Func.isWrapper; first | (rw [if_pos (by decide +kernel)]; kernel_rfl) | (rw [if_neg (by decide +kernel)]; exact ⟨rfl, rfl⟩))
    (fun os started H enc _ F => by rw [OpenClaim.pre_eq_preRow]; exact lifted os started H enc F)

set_option maxRecDepth 100000 in
/-- No parameter wants a stand-in; the program's own looks are off: what the card asks. -/
theorem plain (f : FuncId) (fn : Func) (hf : Tryd.pinned.checked.prog.funcNamed "pandect/pandectlaw04.CalendarMatchesReference" = some f) (hfn : Tryd.pinned.checked.prog.funcs[f]? = some fn) :
    false = Tryd.pinned.checked.prog.looks [] ∧ ∀ (j : Nat) t, fn.params[j]? = some t → Tryd.pinned.checked.prog.wantsStandIn t = false := by
  obtain rfl : f = 3 := Option.some.inj ((show Tryd.prog.funcNamed "pandect/pandectlaw04.CalendarMatchesReference" = some 3 by kernel_rfl).symm.trans hf) |>.symm
  obtain rfl : fn = Tryd.f3 := (Option.some.inj (Tryd.func3.symm.trans hfn)).symm
  refine ⟨by kernel_rfl, fun j t ht => ?_⟩
  rw [Tryd.params3] at ht
  have hm := Array.mem_of_getElem? ht
  simp only [List.mem_toArray, List.mem_cons, List.not_mem_nil, or_false] at hm
  rcases hm with rfl | rfl | rfl | rfl | rfl | rfl | rfl
  · exact wants_int
  · exact wants_int
  · exact wants_int
  · exact wants_int
  · exact wants_string
  · exact wants_term
  · exact wants_nums

theorem card : Rows.CalendarMatchesReferenceCardSaid :=
  Claim7.holds_tied_plain_at .later [] _ _ _ _ said (fun _ h => by cases h) (by kernel_rfl) (fun _ h => by cases h) calendarMatchesReference_row_tie rfl ⟨rfl, rfl⟩ (by kernel_rfl) rfl plain (by kernel_rfl)
end Go.Proofs.YthikonibmpngmaaDoor.calendarMatchesReference
