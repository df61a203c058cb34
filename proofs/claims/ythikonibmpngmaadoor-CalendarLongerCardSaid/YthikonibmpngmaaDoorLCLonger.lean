/-
  CalendarLonger: for every day, term, closed days, two numbers from 0 to 255 and further day the call returns true and its arguments stay, where the four tables hold what the program's text lays.
-/
import Derived.Test.YthikonibmpngmaaDoorLFrameC
import Derived.Test.YthikonibmpngmaaDoorCLonger
import Derived.Test.YthikonibmpngmaaDoorCApp
import Derived.Deep.DeepCutAuto
namespace Go.Proofs.YthikonibmpngmaaDoor.calendarLonger
open Go.ChangeShapes Go.WideShapes Go.ChangeAt Go.RowKit

set_option maxHeartbeats 8000000 in
set_option maxRecDepth 100000 in
theorem law_walk (day n u : Int) (v : Value) (l : List Int) (more later : Nat) (further : Int) (w : World) (_d1 : -9223372036854775808 ≤ day) (_d2 : day ≤ 9223372036854775807) (_hn : -9223372036854775808 ≤ n ∧ n ≤ 9223372036854775807) (_hu : -9223372036854775808 ≤ u ∧ u ≤ 9223372036854775807)
    (hv : IsNums w v l) (hm : more ≤ 255) (hlt : later ≤ 255) (_f1 : -9223372036854775808 ≤ further) (_f2 : further ≤ 9223372036854775807) (ht : HasTab w) :
    Calls Tryd.prog 10 #[.int .i64 day, .agg #[.int .i64 n, .int .i64 u], v, .int .u8 more, .int .u8 later, .int .i64 further] w fun e w' => e = .returned (.bool true) ∧ Below w.heap.size w w' := by
  have hb1 := (Below.refl w.heap.size w).alloc (Nat.le_refl _) (.cells #[.int .i64 n, .int .i64 u] 23)
  have B1 := Lib.hid hb1
  have T1 := Lib.hid (HasTerm.new w n u)
  have HT := Lib.hid ht
  have HV := Lib.hid hv
  clear hb1 ht hv
  go_enter Tryd.func10, Tryd.ntmps10
  go_wp2_with fail
  refine (head_walk _ (HT.out.below B1.out)).mono ?_
  rintro e w2 ⟨rfl, hb⟩
  have T2 := Lib.hid (T1.out.below hb)
  have B2 := Lib.hid (B1.out.trans (hb.mono B1.out.size))
  clear hb
  have c0 := T2.out.c0
  have c1 := T2.out.c1
  go_wp2_with fail
  refine (light_walk n u v l _ (HV.out.below B2.out)).mono ?_
  rintro e w3 ⟨rfl, hb⟩
  have T3 := Lib.hid (T2.out.below hb)
  have B3 := Lib.hid (B2.out.trans (hb.mono B2.out.size))
  clear hb c0 c1
  have c0 := T3.out.c0
  have c1 := T3.out.c1
  by_cases hl : (u ≠ 5 ∨ n ≤ 3000) ∧ l.length ≤ 60
  · rw [Cal.light_yes hl]
    obtain ⟨_, hl60⟩ := hl
    by_cases hr : 0 ≤ n ∧ n ≤ 1000000 ∧ 0 ≤ day ∧ day ≤ 1000000
    · obtain ⟨n0, n1, day0, day1⟩ := hr
      go_wp2_with fail
      refine (add_walk day n u v l _ (HT.out.below B3.out) (HV.out.below B3.out)).mono ?_
      rintro e w4 ⟨q, er, rfl, hR, hb⟩
      have T4 := Lib.hid (T3.out.below hb)
      have B4 := Lib.hid (B3.out.trans (hb.mono B3.out.size))
      have R1 := Lib.hid hR
      clear hb c0 c1 hR
      have c0 := T4.out.c0
      have c1 := T4.out.c1
      go_wp2_with fail
      refine (term_walk _ _ _).mono ?_
      rintro e w5 ⟨rfl, hb⟩
      have T5 := Lib.hid (T4.out.below hb)
      have B5 := Lib.hid (B4.out.trans (hb.mono B4.out.size))
      clear hb c0 c1
      have c0 := T5.out.c0
      have c1 := T5.out.c1
      go_wp2_with fail
      refine (add_walk day (n + more) u v l _ (HT.out.below B5.out) (HV.out.below B5.out)).mono ?_
      rintro e w6 ⟨a, f, rfl, hR, hb⟩
      have T6 := Lib.hid (T5.out.below hb)
      have B6 := Lib.hid (B5.out.trans (hb.mono B5.out.size))
      have R2 := Lib.hid hR
      clear hb c0 c1 hR
      have c0 := T6.out.c0
      have c1 := T6.out.c1
      go_wp2_with fail
      refine (add_walk (day + later) n u v l _ (HT.out.below B6.out) (HV.out.below B6.out)).mono ?_
      rintro e w7 ⟨b, g, rfl, hR, hb⟩
      have T7 := T6.out.below hb
      have B7 := Lib.hid (B6.out.trans (hb.mono B6.out.size))
      have R3 := Lib.hid hR
      clear hb c0 c1 hR T1 T2 T3 T4 T5 T6
      have c0 : ∀ w', Cal.Old w7 w' → w'.cell? ⟨w.heap.size, 0, none⟩ = some (.int .i64 n) := fun w' h => (T7.below h.out).c0
      have c1 : ∀ w', Cal.Old w7 w' → w'.cell? ⟨w.heap.size, 1, none⟩ = some (.int .i64 u) := fun w' h => (T7.below h.out).c1
      have V7 := Lib.hid (HV.out.below B7.out)
      have HA : Hid (∀ w' x, Cal.Old w7 w' → IsNums w' x (l ++ [further]) → Calls Tryd.prog 19 #[.int .i64 day, .agg #[.int .i64 n, .int .i64 u], x] w' fun e w'' => ∃ c h, e = .returned (.tuple #[.int .i64 c, .int .i64 h]) ∧ Cal.AddR (l ++ [further]) day n u c h ∧ Below w'.heap.size w' w'') :=
        fun w' x ho hx => add_walk day n u x _ w' (HT.out.below (B7.out.trans (ho.out.mono B7.out.size))) hx
      have HF := Lib.hid (show -9223372036854775808 ≤ further ∧ further ≤ 9223372036854775807 from ⟨_f1, _f2⟩)
      obtain ⟨i0, hii, hz0, hz1, hz2⟩ := info_parts one_int
      have HI := Lib.hid hii
      have HLX := Lib.hid (show ∀ x ∈ l, -9223372036854775808 ≤ x ∧ x ≤ 9223372036854775807 by obtain ⟨_, _, _, _, _, h, _⟩ := HV.out; exact h)
      clear hii _f1 _f2 T7
      go_upto_region 14 with fail
      go_cut [20, 21] (fun x y wx => ∃ c h, x = .int .i64 c ∧ y = .int .i64 h ∧ Hid (Cal.AddR (l ++ [further]) day n u c h) ∧ Cal.Old w7 wx)
      case first =>
        go_region_held3 (fun w' => Cal.Old w7 w') (first | exact Cal.Old.drew w7 | exact Cal.Old.alloc _ (by with_reducible assumption) | exact Cal.Old.step (by with_reducible assumption) (by with_reducible assumption) | exact Cal.Old.of (by with_reducible assumption) | with_reducible assumption)
            (first
              | (have hs0 := Cal.Old.out (by with_reducible assumption : Cal.Old w7 _); refine step_append_all (by rfl) (.tmp 80) (.tmp 81) 24 rfl w7.heap.size 3 i0 (.int .i64 0) 8 Tryd.underlying24 HI.out hz0 hz1 hz2 rfl _ rfl _ l rfl (V7.out.below hs0) (by unfold maxLen; omega) (by omega) hs0.size ?_; intro v1 w1 hown1 hb1)
              | (have hs0 := Cal.Old.out (by with_reducible assumption : Cal.Old w7 _); refine step_append_more (by rfl) (.tmp 82) (.tmp 84) 24 rfl w7.heap.size 3 i0 (.int .i64 0) 8 Tryd.underlying24 HI.out hz0 hz1 hz2 rfl v1 l.length (Cal.cells l) rfl (by first | exact hown1 | exact hown1.alloc _) _ further rfl (by first | exact nums_one _ _ HF.out | exact (nums_second _ _ _ HF.out).below hb1 | exact (((nums_one _ _ HF.out).below ((Below.refl _ _).alloc (Nat.le_refl _) _)).below (Below.refl _ _).drew).below hb1) (by simp [maxLen]; omega) (by omega) hs0.size ?_; intro v8 w8 hown8 hb8; have hO8 : Cal.Old w7 w8 := Cal.Old.of (Below.trans hs0 hb8))
              | (go_at_call 19; (with_reducible refine (HA.out _ v8 (by with_reducible assumption) (own_nums_snoc hown8 HLX.out HF.out (by omega))).mono ?_); rintro e w9 ⟨c, h, rfl, hR4, hb9⟩; have HR4 := Lib.hid hR4; clear hR4))
        all_goals
          go_wp2_with fail
          go_meet
          exact ⟨_, _, rfl, rfl, HR4, by with_reducible assumption⟩
      case rest =>
        obtain ⟨c, h, rfl, rfl, R4, hO⟩ := hcut
        have B8 := Lib.hid (B7.out.trans (hO.out.mono B7.out.size))
        obtain ⟨k1, k2, k3⟩ := Cal.longer hl60 day0 n0 R1.out R2.out R3.out R4.out
        clear hO c0 c1 R1 R2 R3 R4
        by_cases he : er = 0
        · subst he
          have F : f = 0 ∧ q ≤ a ∨ (f != 0) = true := by
            by_cases e : f = 0
            · exact .inl ⟨e, (k1 e).2⟩
            · exact .inr (by simpa using e)
          have G : g = 0 ∧ q ≤ b ∨ (g != 0) = true := by
            by_cases e : g = 0
            · exact .inl ⟨e, (k2 e).2⟩
            · exact .inr (by simpa using e)
          have H : h = 0 ∧ q ≤ c ∨ (h != 0) = true := by
            by_cases e : h = 0
            · exact .inl ⟨e, (k3 e).2⟩
            · exact .inr (by simpa using e)
          clear k1 k2 k3
          rcases F with ⟨rfl, F⟩ | F <;> rcases G with ⟨rfl, G⟩ | G <;> rcases H with ⟨rfl, H⟩ | H
          all_goals
            go_wp2_with fail
            go_ret
            exact ⟨rfl, B8.out⟩
        · have e0 : (er != 0) = true := by simpa using he
          have e1 : (f != 0) = true := by simpa using fun e => he (k1 e).1
          have e2 : (g != 0) = true := by simpa using fun e => he (k2 e).1
          have e3 : (h != 0) = true := by simpa using fun e => he (k3 e).1
          clear k1 k2 k3 he
          go_wp2_with fail
          go_ret
          exact ⟨rfl, B8.out⟩
    · have hc : n < 0 ∨ (0 ≤ n ∧ 1000000 < n) ∨ (0 ≤ n ∧ n ≤ 1000000 ∧ day < 0) ∨ (0 ≤ n ∧ n ≤ 1000000 ∧ 0 ≤ day ∧ 1000000 < day) := by omega
      clear hr
      rcases hc with h | ⟨h, h2⟩ | ⟨h, h2, h3⟩ | ⟨h, h2, h3, h4⟩
      all_goals
        go_wp2_with fail
        go_ret
        exact ⟨rfl, B3.out⟩
  · rw [Cal.light_no hl]
    clear hl
    go_wp2_with fail
    go_ret
    exact ⟨rfl, B3.out⟩

set_option maxRecDepth 100000 in
/-- What the walk gives, for all arguments and every world that holds the tables. -/
theorem contract (H : Type) (enc : TypeId × Value → H) (W : World) (base : Nat) (args : Array Value) (ds gs : List (DataW H)) (before : List MemPlace)
    (hval : ∀ (j : Nat) t v, Tryd.f10.params[j]? = some t → args[j]? = some v → Value.okWide Tryd.prog W .any base t v)
    (hW : DataW.Whole enc Tryd.prog Tryd.f10.params.toList Rows.calendarLongerSpec.vars false W args.toList ds gs before) (hL : laidMetH Tryd.prog laidAll W) :
    Calls Tryd.prog 10 args W fun e W' => ∃ v, e = .returned v ∧ Rows.calendarLongerSpec.post enc Tryd.prog Tryd.f10 false true false false W args v W' := by
  have hW' := hW
  obtain ⟨p, q, hA0, hV, rfl, hfz, hnd⟩ := hW
  have hA : DataW.TrodAll enc Tryd.prog W 0 (fun _ => true) true Tryd.f10.params.toList args.toList ds p := hA0
  rw [Tryd.params10] at hA hval
  obtain ⟨v0, vs0, d0, ds0, p0, q0, hargs, rfl, rfl, h0, r0⟩ := trodAll_cons hA
  obtain ⟨v1, vs1, d1, ds1, p1, q1, rfl, rfl, rfl, h1, r1⟩ := trodAll_cons r0
  obtain ⟨v2, vs2, d2, ds2, p2, q2, rfl, rfl, rfl, h2, r2⟩ := trodAll_cons r1
  obtain ⟨v3, vs3, d3, ds3, p3, q3, rfl, rfl, rfl, h3, r3⟩ := trodAll_cons r2
  obtain ⟨v4, vs4, d4, ds4, p4, q4, rfl, rfl, rfl, h4, r4⟩ := trodAll_cons r3
  obtain ⟨v5, vs5, d5, ds5, p5, q5, rfl, rfl, rfl, h5, r5⟩ := trodAll_cons r4
  obtain ⟨rfl, rfl, rfl⟩ := trodAll_nil r5
  obtain rfl : args = #[v0, v1, v2, v3, v4, v5] := by cases args; simp_all
  obtain ⟨rfl, rfl⟩ := trodVars_none hV
  obtain ⟨z0, rfl, _, _, g0⟩ := open_int Tryd.underlying3 (hval 0 3 v0 rfl rfl) h0
  obtain ⟨n1, u1, rfl, x1, y1⟩ := open_term (hval 1 23 v1 rfl rfl) h1
  obtain ⟨l2, t2⟩ := open_nums (hval 2 24 v2 rfl rfl) h2
  obtain ⟨z3, rfl, _, _, g3⟩ := open_int Tryd.underlying5 (hval 3 5 v3 rfl rfl) h3
  obtain ⟨n3, rfl⟩ := Int.eq_ofNat_of_zero_le (bounds_u8 g3).1
  obtain ⟨z4, rfl, _, _, g4⟩ := open_int Tryd.underlying5 (hval 4 5 v4 rfl rfl) h4
  obtain ⟨n4, rfl⟩ := Int.eq_ofNat_of_zero_le (bounds_u8 g4).1
  obtain ⟨z5, rfl, _, _, g5⟩ := open_int Tryd.underlying3 (hval 5 3 v5 rfl rfl) h5
  refine (law_walk z0 n1 u1 v2 l2 n3 n4 z5 W (bounds_i64 g0).1 (bounds_i64 g0).2 x1 y1 t2 (Int.ofNat_le.1 (bounds_u8 g3).2) (Int.ofNat_le.1 (bounds_u8 g4).2) (bounds_i64 g5).1 (bounds_i64 g5).2 (hasTab hL)).mono fun e W' ⟨he, hg⟩ => ?_
  subst he
  exact ⟨_, rfl, post_law rfl rfl rfl rfl rfl (by rw [Tryd.params10]; decide) hW' hg⟩

theorem laid_met (os : Os) : laidMet Tryd.prog Rows.calendarLongerRow.laid ((laidWorld os).forCall (fun _ _ => 0) ⟨#[], #[.int .i64 0, .agg #[.int .i64 0, .int .i64 0], .slice none 0 0, .int .u8 0, .int .u8 0, .int .i64 0], []⟩).memory :=
  laidMet_of_run' 8 (by kernel_rfl) (by kernel_rfl)
theorem reads (os : Os) {H : Type} (enc : TypeId × Value → H) : ∃ places, DataW.whole enc Tryd.prog ((laidWorld os).forCall (fun _ _ => 0) ⟨#[], #[.int .i64 0, .agg #[.int .i64 0, .int .i64 0], .slice none 0 0, .int .u8 0, .int .u8 0, .int .i64 0], []⟩).memory Tryd.f10.params.toList Rows.calendarLongerSpec.vars false #[Value.int .i64 0, Value.agg #[.int .i64 0, .int .i64 0], Value.slice none 0 0, Value.int .u8 0, Value.int .u8 0, Value.int .i64 0].toList 8 = some ([.lit (.int .i64 0), .agg [.lit (.int .i64 0), .lit (.int .i64 0)], .nil, .lit (.int .u8 0), .lit (.int .u8 0), .lit (.int .i64 0)], [], places) :=
  ⟨[], by kernel_rfl⟩

set_option maxRecDepth 100000 in
theorem lifted (os : Os) (started : os.Started) (H : Type) (enc : TypeId × Value → H) (F : Stop.Interp) :
    ReturnsInHanded {} Tryd.checked os 10 .any ((OpenSpec.ofChange Rows.calendarLongerSpec).preRow enc Tryd.prog Tryd.f10 Rows.calendarLongerRow.domain false Rows.calendarLongerRow.laid) (((OpenSpec.ofChange Rows.calendarLongerSpec).at F).post enc Tryd.prog Tryd.f10 false true false false) := by
  obtain ⟨places, hx⟩ := reads os enc
  refine returnsInHanded_of_row (C := Tryd.checked) (s := OpenSpec.ofChange Rows.calendarLongerSpec) own started (by kernel_rfl) Tryd.func10
    (witness_row_at (enc := enc) (C := Tryd.checked) false (laidWorld os) #[.int .i64 0, .agg #[.int .i64 0, .int .i64 0], .slice none 0 0, .int .u8 0, .int .u8 0, .int .i64 0] rfl (by kernel_rfl) (by kernel_rfl) (by kernel_rfl)
      (OpenSpec.preRow_of_cond 8 hx (by kernel_rfl) (fun k hk => by cases hk) (by kernel_rfl) (laid_met os))) ?_
  intro W base args ds gs before hval hW _ _ _ hL _ _
  exact contract H enc W base args ds gs before hval hW hL

theorem said : Rows.CalendarLongerSaid :=
  OpenClaim.holds_of_cond 10 Tryd.f10 rfl rfl rfl rfl rfl rfl rfl ⟨rfl, rfl, rfl, rfl, rfl⟩ rfl rfl rfl rfl rfl (by kernel_rfl) Tryd.func10 (by kernel_rfl)
    (of_decide_eq_true (by kernel_rfl)) (by unfold Func.isWrapper; first | (rw [if_pos (by decide +kernel)]; kernel_rfl) | (rw [if_neg (by decide +kernel)]; exact ⟨rfl, rfl⟩))
    (fun os started H enc _ F => by rw [OpenClaim.pre_eq_preRow]; exact lifted os started H enc F)

set_option maxRecDepth 100000 in
/-- No parameter wants a stand-in; the program's own looks are off: what the card asks. -/
theorem plain (f : FuncId) (fn : Func) (hf : Tryd.pinned.checked.prog.funcNamed "pandect/pandectlaw04.CalendarLonger" = some f) (hfn : Tryd.pinned.checked.prog.funcs[f]? = some fn) :
    false = Tryd.pinned.checked.prog.looks [] ∧ ∀ (j : Nat) t, fn.params[j]? = some t → Tryd.pinned.checked.prog.wantsStandIn t = false := by
  obtain rfl : f = 10 := Option.some.inj ((show Tryd.prog.funcNamed "pandect/pandectlaw04.CalendarLonger" = some 10 by kernel_rfl).symm.trans hf) |>.symm
  obtain rfl : fn = Tryd.f10 := (Option.some.inj (Tryd.func10.symm.trans hfn)).symm
  refine ⟨by kernel_rfl, fun j t ht => ?_⟩
  rw [Tryd.params10] at ht
  have hm := Array.mem_of_getElem? ht
  simp only [List.mem_toArray, List.mem_cons, List.not_mem_nil, or_false] at hm
  rcases hm with rfl | rfl | rfl | rfl | rfl | rfl
  · exact wants_int
  · exact wants_term
  · exact wants_nums
  · exact wants_u8
  · exact wants_u8
  · exact wants_int

theorem card : Rows.CalendarLongerCardSaid :=
  Claim7.holds_tied_plain_at .later [] _ _ _ _ said (fun _ h => by cases h) (by kernel_rfl) (fun _ h => by cases h) calendarLonger_row_tie rfl ⟨rfl, rfl⟩ (by kernel_rfl) rfl plain (by kernel_rfl)
end Go.Proofs.YthikonibmpngmaaDoor.calendarLonger
