/-
  CalendarEnds: for every day, term and closed days the call returns true and its arguments stay, where the four tables hold what the program's text lays.
-/
import Derived.Test.YthikonibmpngmaaDoorLFrameC
import Derived.Test.YthikonibmpngmaaDoorCNone
namespace Go.Proofs.YthikonibmpngmaaDoor.calendarEnds
open Go.ChangeShapes Go.WideShapes Go.ChangeAt Go.RowKit

set_option maxHeartbeats 8000000 in
set_option maxRecDepth 100000 in
theorem law_walk (day n u : Int) (v : Value) (l : List Int) (w : World) (_d1 : -9223372036854775808 ≤ day) (_d2 : day ≤ 9223372036854775807) (_hn : -9223372036854775808 ≤ n ∧ n ≤ 9223372036854775807) (_hu : -9223372036854775808 ≤ u ∧ u ≤ 9223372036854775807)
    (hv : IsNums w v l) (ht : HasTab w) :
    Calls Tryd.prog 8 #[.int .i64 day, .agg #[.int .i64 n, .int .i64 u], v] w fun e w' => e = .returned (.bool true) ∧ Below w.heap.size w w' := by
  have hb1 := (Below.refl w.heap.size w).alloc (Nat.le_refl _) (.cells #[.int .i64 n, .int .i64 u] 23)
  have B1 := Lib.hid hb1
  have T1 := Lib.hid (HasTerm.new w n u)
  have HT := Lib.hid ht
  have HV := Lib.hid hv
  clear hb1 ht hv
  go_enter Tryd.func8, Tryd.ntmps8
  go_wp2_with fail
  refine (head_walk _ (HT.out.below B1.out)).mono ?_
  rintro e w2 ⟨rfl, hb⟩
  have T2 := Lib.hid (T1.out.below hb)
  have B2 := Lib.hid (B1.out.trans (hb.mono B1.out.size))
  clear hb
  have c0 := T2.out.c0
  have c1 := T2.out.c1
  go_wp2_with fail
  refine (light_walk n u v l _ (HV.out.below B2.out)).mono ?_
  rintro e w3 ⟨rfl, hb⟩
  have T3 := Lib.hid (T2.out.below hb)
  have B3 := Lib.hid (B2.out.trans (hb.mono B2.out.size))
  clear hb c0 c1
  have c0 := T3.out.c0
  have c1 := T3.out.c1
  by_cases hl : (u ≠ 5 ∨ n ≤ 3000) ∧ l.length ≤ 60
  · rw [Cal.light_yes hl]
    clear hl
    go_wp2_with fail
    refine (add_walk day n u v l _ (HT.out.below B3.out) (HV.out.below B3.out)).mono ?_
    rintro e w4 ⟨q, er, rfl, hR, hb⟩
    have T4 := Lib.hid (T3.out.below hb)
    have B4 := Lib.hid (B3.out.trans (hb.mono B3.out.size))
    have V4 := Lib.hid (HV.out.below (B3.out.trans (hb.mono B3.out.size)))
    clear hb c0 c1
    have c0 := T4.out.c0
    have c1 := T4.out.c1
    by_cases he : er = 0
    · subst he
      obtain ⟨hI, hlen, a, hS, h1, h2, h3, h4, h5⟩ := hR.ok
      have H4 := Lib.hid h4
      have H5 := Lib.hid h5
      have HS := Lib.hid hS
      obtain ⟨i1, i2, i3, i4, i5, i6⟩ := hI
      clear hR h4 h5 hS
      have hu : u = 1 ∨ u = 2 ∨ u = 3 ∨ u = 4 ∨ u = 5 := by omega
      rcases hu with rfl | rfl | rfl | rfl | rfl
      · obtain ⟨rfl, _⟩ : a = day + n ∧ (0 : Int) = 0 := by simpa [Cal.Step] using HS.out
        go_wp2_with fail
        refine (work_is H4.out _ V4.out).mono ?_
        rintro e w' ⟨rfl, rfl⟩
        go_wp2_with fail
        refine (none_walk _ _ _ _ _ V4.out (by omega) (by omega) (by omega) H5.out).mono ?_
        rintro e w' ⟨rfl, rfl⟩
        go_wp2_with fail
        go_ret
        exact ⟨rfl, B4.out⟩
      · obtain ⟨rfl, _⟩ : a = day + 7 * n ∧ (0 : Int) = 0 := by simpa [Cal.Step] using HS.out
        go_wp2_with fail
        refine (work_is H4.out _ V4.out).mono ?_
        rintro e w' ⟨rfl, rfl⟩
        go_wp2_with fail
        refine (none_walk _ _ _ _ _ V4.out (by omega) (by omega) (by omega) H5.out).mono ?_
        rintro e w' ⟨rfl, rfl⟩
        go_wp2_with fail
        go_ret
        exact ⟨rfl, B4.out⟩
      · go_wp2_with fail
        refine (work_is H4.out _ V4.out).mono ?_
        rintro e w' ⟨rfl, rfl⟩
        go_wp2_with fail
        go_ret
        exact ⟨rfl, B4.out⟩
      · go_wp2_with fail
        refine (work_is H4.out _ V4.out).mono ?_
        rintro e w' ⟨rfl, rfl⟩
        go_wp2_with fail
        go_ret
        exact ⟨rfl, B4.out⟩
      · by_cases hn0 : n = 0
        · subst hn0
          obtain ⟨rfl, _⟩ : a = day ∧ (0 : Int) = 0 := by simpa [Cal.Step, Cal.WorkL] using HS.out
          go_wp2_with fail
          refine (work_is H4.out _ V4.out).mono ?_
          rintro e w' ⟨rfl, rfl⟩
          go_wp2_with fail
          refine (none_walk _ _ _ _ _ V4.out (by omega) (by omega) (by omega) H5.out).mono ?_
          rintro e w' ⟨rfl, rfl⟩
          go_wp2_with fail
          go_ret
          exact ⟨rfl, B4.out⟩
        · have hq : (n == 0) = false := by simpa using hn0
          obtain ⟨hlt, hcnt⟩ := Cal.work_end (by omega) HS.out h2 H5.out
          have HC := Lib.hid hcnt
          clear hcnt hn0
          go_wp2_with fail
          refine (work_is H4.out _ V4.out).mono ?_
          rintro e w' ⟨rfl, rfl⟩
          go_wp2_with fail
          go_loop [10, 11] (fun c i => ∃ k : Int, day + 1 ≤ k ∧ k ≤ q + 1 ∧ i = .int .i64 k ∧ c = .int .i64 (Cal.cnt (Cal.opn l) day (k - 1 - day).toNat)) (fun _ i => (q + 1 - intOf i).toNat)
          case atStart => exact ⟨day + 1, by omega, by omega, rfl, by rw [show (day + 1 - 1 - day).toNat = 0 by omega]; rfl⟩
          case round =>
            obtain ⟨k, hk1, hk2, rfl, rfl⟩ := hrel
            by_cases hkq : k ≤ q
            · have hbd := Cal.cnt_bd (Cal.opn l) day (k - 1 - day).toNat
              have HX := Lib.hid (Cal.cnt_step (Cal.opn l) day k hk1)
              obtain ⟨c, hc⟩ : ∃ c, c = Cal.cnt (Cal.opn l) day (k - 1 - day).toNat := ⟨_, rfl⟩
              have hcb : 0 ≤ c ∧ c ≤ 1000001 := by omega
              rw [← hc] at HX ⊢
              clear hc hbd
              cases ho : Cal.opn l k
              · have HO := Lib.hid ho
                clear ho
                go_wp2_with fail
                refine (work_is HO.out _ V4.out).mono ?_
                rintro e w' ⟨rfl, rfl⟩
                go_wp2_with fail
                go_round
                case rel => exact ⟨k + 1, by omega, by omega, rfl, by rw [show k + 1 - 1 - day = k - day by omega, HX.out, HO.out]; simp⟩
                case measure => simp [intOf]; omega
              · have HO := Lib.hid ho
                clear ho
                go_wp2_with fail
                refine (work_is HO.out _ V4.out).mono ?_
                rintro e w' ⟨rfl, rfl⟩
                go_wp2_with fail
                go_round
                case rel => exact ⟨k + 1, by omega, by omega, rfl, by rw [show k + 1 - 1 - day = k - day by omega, HX.out, HO.out]; simp⟩
                case measure => simp [intOf]; omega
            · obtain rfl : k = q + 1 := by omega
              rw [show q + 1 - 1 - day = q - day by omega, HC.out]
              go_wp2_with fail
              go_ret
              exact ⟨by simp, B4.out⟩
    · obtain rfl := hR.err he
      have hq : (er != 0) = true := by simpa using he
      clear hR he
      go_wp2_with fail
      go_ret
      exact ⟨rfl, B4.out⟩
  · rw [Cal.light_no hl]
    clear hl
    go_wp2_with fail
    go_ret
    exact ⟨rfl, B3.out⟩

set_option maxRecDepth 100000 in
/-- What the walk gives, for all arguments and every world that holds the tables. -/
theorem contract (H : Type) (enc : TypeId × Value → H) (W : World) (base : Nat) (args : Array Value) (ds gs : List (DataW H)) (before : List MemPlace)
    (hval : ∀ (j : Nat) t v, Tryd.f8.params[j]? = some t → args[j]? = some v → Value.okWide Tryd.prog W .any base t v)
    (hW : DataW.Whole enc Tryd.prog Tryd.f8.params.toList Rows.calendarEndsSpec.vars false W args.toList ds gs before) (hL : laidMetH Tryd.prog laidAll W) :
    Calls Tryd.prog 8 args W fun e W' => ∃ v, e = .returned v ∧ Rows.calendarEndsSpec.post enc Tryd.prog Tryd.f8 false true false false W args v W' := by
  have hW' := hW
  obtain ⟨p, q, hA0, hV, rfl, hfz, hnd⟩ := hW
  have hA : DataW.TrodAll enc Tryd.prog W 0 (fun _ => true) true Tryd.f8.params.toList args.toList ds p := hA0
  rw [Tryd.params8] at hA hval
  obtain ⟨v0, vs0, d0, ds0, p0, q0, hargs, rfl, rfl, h0, r0⟩ := trodAll_cons hA
  obtain ⟨v1, vs1, d1, ds1, p1, q1, rfl, rfl, rfl, h1, r1⟩ := trodAll_cons r0
  obtain ⟨v2, vs2, d2, ds2, p2, q2, rfl, rfl, rfl, h2, r2⟩ := trodAll_cons r1
  obtain ⟨rfl, rfl, rfl⟩ := trodAll_nil r2
  obtain rfl : args = #[v0, v1, v2] := by cases args; simp_all
  obtain ⟨rfl, rfl⟩ := trodVars_none hV
  obtain ⟨z0, rfl, _, _, g0⟩ := open_int Tryd.underlying3 (hval 0 3 v0 rfl rfl) h0
  obtain ⟨n1, u1, rfl, x1, y1⟩ := open_term (hval 1 23 v1 rfl rfl) h1
  obtain ⟨l2, t2⟩ := open_nums (hval 2 24 v2 rfl rfl) h2
  refine (law_walk z0 n1 u1 v2 l2 W (bounds_i64 g0).1 (bounds_i64 g0).2 x1 y1 t2 (hasTab hL)).mono fun e W' ⟨he, hg⟩ => ?_
  subst he
  exact ⟨_, rfl, post_law rfl rfl rfl rfl rfl (by rw [Tryd.params8]; decide) hW' hg⟩

theorem laid_met (os : Os) : laidMet Tryd.prog Rows.calendarEndsRow.laid ((laidWorld os).forCall (fun _ _ => 0) ⟨#[], #[.int .i64 0, .agg #[.int .i64 0, .int .i64 0], .slice none 0 0], []⟩).memory :=
  laidMet_of_run' 8 (by kernel_rfl) (by kernel_rfl)
theorem reads (os : Os) {H : Type} (enc : TypeId × Value → H) : ∃ places, DataW.whole enc Tryd.prog ((laidWorld os).forCall (fun _ _ => 0) ⟨#[], #[.int .i64 0, .agg #[.int .i64 0, .int .i64 0], .slice none 0 0], []⟩).memory Tryd.f8.params.toList Rows.calendarEndsSpec.vars false #[Value.int .i64 0, Value.agg #[.int .i64 0, .int .i64 0], Value.slice none 0 0].toList 8 = some ([.lit (.int .i64 0), .agg [.lit (.int .i64 0), .lit (.int .i64 0)], .nil], [], places) :=
  ⟨[], by kernel_rfl⟩

set_option maxRecDepth 100000 in
theorem lifted (os : Os) (started : os.Started) (H : Type) (enc : TypeId × Value → H) (F : Stop.Interp) :
    ReturnsInHanded {} Tryd.checked os 8 .any ((OpenSpec.ofChange Rows.calendarEndsSpec).preRow enc Tryd.prog Tryd.f8 Rows.calendarEndsRow.domain false Rows.calendarEndsRow.laid) (((OpenSpec.ofChange Rows.calendarEndsSpec).at F).post enc Tryd.prog Tryd.f8 false true false false) := by
  obtain ⟨places, hx⟩ := reads os enc
  refine returnsInHanded_of_row (C := Tryd.checked) (s := OpenSpec.ofChange Rows.calendarEndsSpec) own started (by kernel_rfl) Tryd.func8
    (witness_row_at (enc := enc) (C := Tryd.checked) false (laidWorld os) #[.int .i64 0, .agg #[.int .i64 0, .int .i64 0], .slice none 0 0] rfl (by kernel_rfl) (by kernel_rfl) (by kernel_rfl)
      (OpenSpec.preRow_of_cond 8 hx (by kernel_rfl) (fun k hk => by cases hk) (by kernel_rfl) (laid_met os))) ?_
  intro W base args ds gs before hval hW _ _ _ hL _ _
  exact contract H enc W base args ds gs before hval hW hL

theorem said : Rows.CalendarEndsSaid :=
  OpenClaim.holds_of_cond 8 Tryd.f8 rfl rfl rfl rfl rfl rfl rfl ⟨rfl, rfl, rfl, rfl, rfl⟩ rfl rfl rfl rfl rfl (by kernel_rfl) Tryd.func8 (by kernel_rfl)
    (of_decide_eq_true (by kernel_rfl)) (by unfold Func.isWrapper; first | (rw [if_pos (by decide +kernel)]; kernel_rfl) | (rw [if_neg (by decide +kernel)]; exact ⟨rfl, rfl⟩))
    (fun os started H enc _ F => by rw [OpenClaim.pre_eq_preRow]; exact lifted os started H enc F)

set_option maxRecDepth 100000 in
/-- No parameter wants a stand-in; the program's own looks are off: what the card asks. -/
theorem plain (f : FuncId) (fn : Func) (hf : Tryd.pinned.checked.prog.funcNamed "pandect/pandectlaw04.CalendarEnds" = some f) (hfn : Tryd.pinned.checked.prog.funcs[f]? = some fn) :
    false = Tryd.pinned.checked.prog.looks [] ∧ ∀ (j : Nat) t, fn.params[j]? = some t → Tryd.pinned.checked.prog.wantsStandIn t = false := by
  obtain rfl : f = 8 := Option.some.inj ((show Tryd.prog.funcNamed "pandect/pandectlaw04.CalendarEnds" = some 8 by kernel_rfl).symm.trans hf) |>.symm
  obtain rfl : fn = Tryd.f8 := (Option.some.inj (Tryd.func8.symm.trans hfn)).symm
  refine ⟨by kernel_rfl, fun j t ht => ?_⟩
  rw [Tryd.params8] at ht
  have hm := Array.mem_of_getElem? ht
  simp only [List.mem_toArray, List.mem_cons, List.not_mem_nil, or_false] at hm
  rcases hm with rfl | rfl | rfl
  · exact wants_int
  · exact wants_term
  · exact wants_nums

theorem card : Rows.CalendarEndsCardSaid :=
  Claim7.holds_tied_plain_at .later [] _ _ _ _ said (fun _ h => by cases h) (by kernel_rfl) (fun _ h => by cases h) calendarEnds_row_tie rfl ⟨rfl, rfl⟩ (by kernel_rfl) rfl plain (by kernel_rfl)
end Go.Proofs.YthikonibmpngmaaDoor.calendarEnds
