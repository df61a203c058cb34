/-
  CalendarMonths: for every day, number of months and closed days the call returns true and its arguments stay, where the four tables hold what the program's text lays.
-/
import Derived.Test.YthikonibmpngmaaDoorLFrameC
import Derived.Test.YthikonibmpngmaaDoorCNone
namespace Go.Proofs.YthikonibmpngmaaDoor.calendarMonths
open Go.ChangeShapes Go.WideShapes Go.ChangeAt Go.RowKit

/-- Years are months, as far as there are so many. -/
theorem years {cl : List Int} {day : Int} {k : Nat} {v e : Int} (hk : k ≤ 65535) (h : Cal.AddR cl day k 4 v e) : Cal.AddR cl day (12 * k) 3 v e := by
  have ht : Cal.IsTerm day k 4 ↔ Cal.IsTerm day (12 * k) 3 := by unfold Cal.IsTerm; omega
  rcases h with ⟨h1, h2⟩ | ⟨h1, h2⟩ | ⟨h1, h2, a, b, h3, h4⟩
  · exact .inl ⟨fun h => h1 (ht.2 h), h2⟩
  · exact .inr (.inl ⟨ht.1 h1, h2⟩)
  · refine .inr (.inr ⟨ht.1 h1, h2, a, b, ?_, h4⟩)
    simp only [Cal.Step] at h3 ⊢
    rw [if_neg (by decide), if_neg (by decide), if_neg (by decide), if_pos trivial] at h3
    rw [if_neg (by decide), if_neg (by decide), if_pos trivial]
    exact h3
/-- What the law's loop meets: lengths, and the answers of Day in the month reached. -/
theorem far_no {y m i : Int} (_hm : 1 ≤ m ∧ m ≤ 12) (hi : Cal.len y m < i) : Cal.dv y m i = 0 ∧ Cal.de y m i = 1 := by
  unfold Cal.dv Cal.de
  rw [if_neg (by omega), if_neg (by omega)]
  exact ⟨rfl, rfl⟩
theorem near_is {y m i : Int} (hm : 1 ≤ m ∧ m ≤ 12) (hy : 1600 ≤ y ∧ y ≤ 9999) (hi : 1 ≤ i ∧ i ≤ Cal.len y m) : (Cal.num y m i ≤ 1000000 → Cal.dv y m i = Cal.num y m i ∧ Cal.de y m i = 0) ∧ (¬ Cal.num y m i ≤ 1000000 → Cal.dv y m i = 0 ∧ Cal.de y m i = 10) := by
  unfold Cal.dv Cal.de
  have hv : 1 ≤ m ∧ m ≤ 12 ∧ 1 ≤ i ∧ i ≤ Cal.len y m := ⟨hm.1, hm.2, hi.1, hi.2⟩
  constructor
  · intro h
    rw [if_pos ⟨hv, hy.1, hy.2, h⟩, if_pos hv, if_pos ⟨hy.1, hy.2, h⟩]
    exact ⟨rfl, rfl⟩
  · intro h
    rw [if_neg (fun g => h g.2.2.2), if_pos hv, if_neg (fun g => h g.2.2)]
    exact ⟨rfl, rfl⟩
/-- The end of so many months. -/
theorem end_is {cl : List Int} {day y m d v e : Int} {k : Nat} (hd : Cal.IsDate day y m d) (hday : day ≤ 1000000) (hk : k ≤ 65535) (hl : cl.length ≤ 60) (h : Cal.AddR cl day k 3 v e) :
    (1000000 < Cal.later y m d k ∧ e = 10) ∨ (Cal.later y m d k ≤ 1000000 ∧ Cal.Next (Cal.opn cl) (Cal.later y m d k) v e) := by
  have h0 := hd.ge
  rcases h with ⟨h1, _⟩ | ⟨_, h1, _⟩ | ⟨h1, h2, a, b, h3, h4⟩
  · exact absurd ⟨h0, hday, by omega, by omega, by omega, by omega⟩ h1
  · omega
  · simp only [Cal.Step] at h3
    rw [if_neg (by decide), if_neg (by decide), if_pos trivial] at h3
    obtain ⟨y', m', d', g1, g2⟩ := h3
    obtain ⟨rfl, rfl, rfl⟩ := hd.inj g1
    rcases g2 with ⟨g2, rfl, rfl⟩ | ⟨g2, rfl, rfl⟩
    · rcases h4 with ⟨h4, _⟩ | ⟨_, _, h4⟩
      · omega
      · exact .inl ⟨g2, h4⟩
    · rcases h4 with ⟨_, h4⟩ | ⟨h4, _⟩
      · exact .inr ⟨g2, h4⟩
      · exact absurd rfl h4

/-- The day that the law's loop finds. -/
theorem reach {y m d Y M L r : Int} {k : Nat} (hy : 1600 ≤ y) (hm : 1 ≤ m ∧ m ≤ 12) (hd : 1 ≤ d) (hY : y + (m - 1 + (k : Int)) / 12 = Y) (hM : (m - 1 + (k : Int)) % 12 + 1 = M) (hL : Cal.len Y M = L) (hr : Cal.later y m d k = r) :
    (r ≤ 1000000 ∧ Cal.dv Y M (min d L) = r ∧ Cal.de Y M (min d L) = 0) ∨ (1000000 < r ∧ Cal.dv Y M (min d L) = 0 ∧ Cal.de Y M (min d L) = 10) := by
  have hr' : Cal.num Y M (min d L) = r := by rw [← hr]; unfold Cal.later; rw [hY, hM, hL]
  have hl := Cal.len_bd Y M
  have hM' : 1 ≤ M ∧ M ≤ 12 := by omega
  by_cases c : Y ≤ 9999
  · have h := near_is (y := Y) (m := M) (i := min d L) hM' ⟨by omega, c⟩ ⟨by omega, by omega⟩
    rw [hr'] at h
    by_cases q : r ≤ 1000000
    · exact .inl ⟨q, h.1 q⟩
    · exact .inr ⟨by omega, h.2 q⟩
  · have h := Cal.at_far (T := 12 * y + (m - 1) + (k : Int)) (d := d) (by omega) hd
    rw [← Cal.later_at, hr] at h
    refine .inr ⟨h, ?_⟩
    unfold Cal.dv Cal.de
    rw [if_neg (by omega), if_pos (by omega), if_neg (by omega)]
    exact ⟨rfl, rfl⟩

set_option maxHeartbeats 4000000 in
set_option maxRecDepth 100000 in
theorem w_long (day : Int) (k : Nat) (v : Value) (l : List Int) (w : World) (hv : IsNums w v l) (ht : HasTab w) (hl : 60 < l.length) :
    Calls Tryd.prog 9 #[.int .i64 day, .int .u16 k, v] w fun e w' => e = .returned (.bool true) ∧ Below w.heap.size w w' := by
  obtain ⟨a, cap, rfl, h1, h2, _, _⟩ := hv
  have HT := Lib.hid ht
  clear ht
  go_enter Tryd.func9, Tryd.ntmps9
  go_wp2_with fail
  refine (head_walk _ HT.out).mono ?_
  rintro e w1 ⟨rfl, hb⟩
  go_wp2_with fail
  go_ret
  exact ⟨rfl, hb⟩

set_option maxHeartbeats 8000000 in
set_option maxRecDepth 100000 in
theorem w_main (day : Int) (k : Nat) (hk : k ≤ 65535) (v : Value) (l : List Int) (w : World) (hv : IsNums w v l) (ht : HasTab w) (hl : l.length ≤ 60) :
    Calls Tryd.prog 9 #[.int .i64 day, .int .u16 k, v] w fun e w' => e = .returned (.bool true) ∧ Below w.heap.size w w' := by
  have HT := Lib.hid ht
  have HV := Lib.hid hv
  obtain ⟨a, cap, rfl, h1, h2, _, _⟩ := hv
  clear ht
  go_enter Tryd.func9, Tryd.ntmps9
  go_wp2_with fail
  refine (head_walk _ HT.out).mono ?_
  rintro e w1 ⟨rfl, hb⟩
  have B1 := Lib.hid hb
  clear hb
  go_wp2_with fail
  refine (term_walk _ _ _).mono ?_
  rintro e w2 ⟨rfl, hb⟩
  have B2 := Lib.hid (B1.out.trans (hb.mono B1.out.size))
  clear hb
  go_wp2_with fail
  refine (add_walk _ _ _ _ _ _ (HT.out.below B2.out) (HV.out.below B2.out)).mono ?_
  rintro e w3 ⟨q, er, rfl, hR, hb⟩
  have B3 := Lib.hid (B2.out.trans (hb.mono B2.out.size))
  have HR := Lib.hid hR
  clear hb hR
  go_wp2_with fail
  refine (term_walk _ _ _).mono ?_
  rintro e w4 ⟨rfl, hb⟩
  have B4 := Lib.hid (B3.out.trans (hb.mono B3.out.size))
  clear hb
  go_wp2_with fail
  refine (add_walk _ _ _ _ _ _ (HT.out.below B4.out) (HV.out.below B4.out)).mono ?_
  rintro e w5 ⟨q2, er2, rfl, hR2, hb⟩
  have B5 := Lib.hid (B4.out.trans (hb.mono B4.out.size))
  have HY := Lib.hid (years hk hR2)
  clear hb hR2
  go_wp2_with fail
  refine (term_walk _ _ _).mono ?_
  rintro e w6 ⟨rfl, hb⟩
  have B6 := Lib.hid (B5.out.trans (hb.mono B5.out.size))
  clear hb
  go_wp2_with fail
  refine (add_is HY.out _ (HT.out.below B6.out) (HV.out.below B6.out)).mono ?_
  rintro e w7 ⟨rfl, hb⟩
  have B7 := Lib.hid (B6.out.trans (hb.mono B6.out.size))
  have V7 := Lib.hid (HV.out.below B7.out)
  have T7 := Lib.hid (HT.out.below B7.out)
  clear hb
  go_wp2_with fail
  by_cases hday : 0 ≤ day ∧ day ≤ 1000000
  · refine (date_ok day _ hday.1 hday.2 T7.out).mono ?_
    rintro e w' ⟨y, m, d, er3, rfl, ⟨hd, rfl⟩, rfl⟩
    have HD := Lib.hid hd
    obtain ⟨r, hr⟩ : ∃ r, Cal.later y m d k = r := ⟨_, rfl⟩
    have HE := end_is hd hday.2 hk hl HR.out
    rw [hr] at HE
    have HE := Lib.hid HE
    have hr0 : r ≤ 1000000 → 0 ≤ r := fun h => by have := Cal.later_ge (j := (k : Int)) hd (by omega) (by rw [hr]; exact h); rw [hr] at this; omega
    obtain ⟨y1, y2, ⟨m1, m2, d1, d2⟩, _⟩ := hd
    obtain ⟨hd0, hd1⟩ := hday
    have hl31 := Cal.len_bd y m
    have hd31 : d ≤ 31 := by omega
    clear d2 hl31
    go_wp2_with fail
    generalize hY : y + (m - 1 + (k : Int)) / 12 = Y
    generalize hM : (m - 1 + (k : Int)) % 12 + 1 = M
    obtain ⟨L, hL⟩ : ∃ L, Cal.len Y M = L := ⟨_, rfl⟩
    have hRE := reach y1 ⟨m1, m2⟩ d1 hY hM hL hr
    have hlb := Cal.len_bd Y M
    have hM' : 1 ≤ M ∧ M ≤ 12 := by omega
    have hYb : 1600 ≤ Y ∧ Y ≤ 20000 := by omega
    obtain ⟨b, hb⟩ : ∃ b, min d L = b := ⟨_, rfl⟩
    rw [hb] at hRE
    have hb1 : b ≤ d ∧ 1 ≤ b ∧ d ≤ b + 3 ∧ (b = d ∨ 28 ≤ b) := by omega
    have hfar : ∀ z, b < z → z ≤ d → Cal.len Y M < z := by intro z h1 h2; omega
    have HF := Lib.hid hfar
    have HM := Lib.hid hM'
    obtain ⟨hb1, hb2, hb3, hb4⟩ := hb1
    have HR0 := Lib.hid hr0
    clear hr0 hfar hlb hM' hb hL hr hY hM HD y1 y2 m1 m2 hYb
    have HRE := Lib.hid hRE
    clear hRE
    go_loop [18, 19] (fun c i => ∃ z : Int, b ≤ z ∧ z ≤ d ∧ i = .int .i64 z ∧ c = .int .i64 (-1)) (fun _ i => (intOf i).toNat)
    case atStart => exact ⟨d, hb1, Int.le_refl _, rfl, rfl⟩
    case round =>
      obtain ⟨z, hz1, hz2, rfl, rfl⟩ := hrel
      by_cases hzb : z = b
      · subst hzb
        rcases HRE.out with ⟨hr, hdv, hde⟩ | ⟨hr, hdv, hde⟩
        · have hr1 := HR0.out hr
          have HDV := Lib.hid hdv
          have HDE := Lib.hid hde
          clear hdv hde
          rcases HE.out with ⟨g, _⟩ | ⟨_, g⟩
          · omega
          · rcases g with ⟨rfl, g2, g3, _, g5⟩ | ⟨rfl, g2, g5⟩
            · have G5 := Lib.hid g5
              clear g5
              by_cases h28 : 28 ≤ z
              · go_wp2_with fail
                refine (day_is HDV.out HDE.out _ T7.out).mono ?_
                rintro e w' ⟨rfl, rfl⟩
                go_wp2_with fail
                refine (none_walk _ _ _ _ _ V7.out (by omega) (by omega) (by omega) G5.out).mono ?_
                rintro e w' ⟨rfl, rfl⟩
                go_wp2_with fail
                go_ret
                exact ⟨rfl, B7.out⟩
              · go_wp2_with fail
                refine (day_is HDV.out HDE.out _ T7.out).mono ?_
                rintro e w' ⟨rfl, rfl⟩
                go_wp2_with fail
                refine (none_walk _ _ _ _ _ V7.out (by omega) (by omega) (by omega) G5.out).mono ?_
                rintro e w' ⟨rfl, rfl⟩
                go_wp2_with fail
                go_ret
                exact ⟨rfl, B7.out⟩
            · have G5 := Lib.hid (show ∀ x, r ≤ x → x < 1000001 → Cal.opn l x = false from fun x h1 h2 => g5 x h1 (by omega))
              clear g5
              by_cases h28 : 28 ≤ z
              · go_wp2_with fail
                refine (day_is HDV.out HDE.out _ T7.out).mono ?_
                rintro e w' ⟨rfl, rfl⟩
                go_wp2_with fail
                refine (none_walk _ _ _ _ _ V7.out (by omega) (by omega) (by omega) G5.out).mono ?_
                rintro e w' ⟨rfl, rfl⟩
                go_wp2_with fail
                go_ret
                exact ⟨rfl, B7.out⟩
              · go_wp2_with fail
                refine (day_is HDV.out HDE.out _ T7.out).mono ?_
                rintro e w' ⟨rfl, rfl⟩
                go_wp2_with fail
                refine (none_walk _ _ _ _ _ V7.out (by omega) (by omega) (by omega) G5.out).mono ?_
                rintro e w' ⟨rfl, rfl⟩
                go_wp2_with fail
                go_ret
                exact ⟨rfl, B7.out⟩
        · have HDV := Lib.hid hdv
          have HDE := Lib.hid hde
          clear hdv hde
          rcases HE.out with ⟨_, rfl⟩ | ⟨g, _⟩
          · by_cases h28 : 28 ≤ z
            · go_wp2_with fail
              refine (day_is HDV.out HDE.out _ T7.out).mono ?_
              rintro e w' ⟨rfl, rfl⟩
              go_wp2_with fail
              go_ret
              exact ⟨rfl, B7.out⟩
            · go_wp2_with fail
              refine (day_is HDV.out HDE.out _ T7.out).mono ?_
              rintro e w' ⟨rfl, rfl⟩
              go_wp2_with fail
              go_ret
              exact ⟨rfl, B7.out⟩
          · omega
      · have h28 : 28 ≤ z := by omega
        go_wp2_with fail
        refine (day_is (far_no HM.out (HF.out z (by omega) hz2)).1 (far_no HM.out (HF.out z (by omega) hz2)).2 _ T7.out).mono ?_
        rintro e w' ⟨rfl, rfl⟩
        go_wp2_with fail
        go_round
        case rel => exact ⟨z - 1, by omega, by omega, rfl, rfl⟩
        case measure => simp [intOf]; omega
  · have HR1 := Lib.hid (show er = 1 by
      rcases HR.out with ⟨_, _, h⟩ | ⟨h, _⟩ | ⟨h, _⟩
      · exact h
      · exact absurd ⟨h.1, h.2.1⟩ hday
      · exact absurd ⟨h.1, h.2.1⟩ hday)
    refine (date_no day _ hday).mono ?_
    rintro e w' ⟨rfl, rfl⟩
    obtain rfl := HR1.out
    clear hday
    go_wp2_with fail
    go_ret
    exact ⟨rfl, B7.out⟩

theorem law_walk (day : Int) (k : Nat) (v : Value) (l : List Int) (w : World) (_d1 : -9223372036854775808 ≤ day) (_d2 : day ≤ 9223372036854775807) (hk : k ≤ 65535) (hv : IsNums w v l) (ht : HasTab w) :
    Calls Tryd.prog 9 #[.int .i64 day, .int .u16 k, v] w fun e w' => e = .returned (.bool true) ∧ Below w.heap.size w w' := by
  by_cases hl : l.length ≤ 60
  · exact w_main day k hk v l w hv ht hl
  · exact w_long day k v l w hv ht (by omega)

set_option maxRecDepth 100000 in
/-- What the walk gives, for all arguments and every world that holds the tables. -/
theorem contract (H : Type) (enc : TypeId × Value → H) (W : World) (base : Nat) (args : Array Value) (ds gs : List (DataW H)) (before : List MemPlace)
    (hval : ∀ (j : Nat) t v, Tryd.f9.params[j]? = some t → args[j]? = some v → Value.okWide Tryd.prog W .any base t v)
    (hW : DataW.Whole enc Tryd.prog Tryd.f9.params.toList Rows.calendarMonthsSpec.vars false W args.toList ds gs before) (hL : laidMetH Tryd.prog laidAll W) :
    Calls Tryd.prog 9 args W fun e W' => ∃ v, e = .returned v ∧ Rows.calendarMonthsSpec.post enc Tryd.prog Tryd.f9 false true false false W args v W' := by
  have hW' := hW
  obtain ⟨p, q, hA0, hV, rfl, hfz, hnd⟩ := hW
  have hA : DataW.TrodAll enc Tryd.prog W 0 (fun _ => true) true Tryd.f9.params.toList args.toList ds p := hA0
  rw [Tryd.params9] at hA hval
  obtain ⟨v0, vs0, d0, ds0, p0, q0, hargs, rfl, rfl, h0, r0⟩ := trodAll_cons hA
  obtain ⟨v1, vs1, d1, ds1, p1, q1, rfl, rfl, rfl, h1, r1⟩ := trodAll_cons r0
  obtain ⟨v2, vs2, d2, ds2, p2, q2, rfl, rfl, rfl, h2, r2⟩ := trodAll_cons r1
  obtain ⟨rfl, rfl, rfl⟩ := trodAll_nil r2
  obtain rfl : args = #[v0, v1, v2] := by cases args; simp_all
  obtain ⟨rfl, rfl⟩ := trodVars_none hV
  obtain ⟨z0, rfl, _, _, g0⟩ := open_int Tryd.underlying3 (hval 0 3 v0 rfl rfl) h0
  obtain ⟨z1, rfl, _, _, g1⟩ := open_int Tryd.underlying38 (hval 1 38 v1 rfl rfl) h1
  obtain ⟨n1, rfl⟩ := Int.eq_ofNat_of_zero_le (bounds_u16 g1).1
  obtain ⟨l2, t2⟩ := open_nums (hval 2 24 v2 rfl rfl) h2
  refine (law_walk z0 n1 v2 l2 W (bounds_i64 g0).1 (bounds_i64 g0).2 (Int.ofNat_le.1 (bounds_u16 g1).2) t2 (hasTab hL)).mono fun e W' ⟨he, hg⟩ => ?_
  subst he
  exact ⟨_, rfl, post_law rfl rfl rfl rfl rfl (by rw [Tryd.params9]; decide) hW' hg⟩

theorem laid_met (os : Os) : laidMet Tryd.prog Rows.calendarMonthsRow.laid ((laidWorld os).forCall (fun _ _ => 0) ⟨#[], #[.int .i64 0, .int .u16 0, .slice none 0 0], []⟩).memory :=
  laidMet_of_run' 8 (by kernel_rfl) (by kernel_rfl)
theorem reads (os : Os) {H : Type} (enc : TypeId × Value → H) : ∃ places, DataW.whole enc Tryd.prog ((laidWorld os).forCall (fun _ _ => 0) ⟨#[], #[.int .i64 0, .int .u16 0, .slice none 0 0], []⟩).memory Tryd.f9.params.toList Rows.calendarMonthsSpec.vars false #[Value.int .i64 0, Value.int .u16 0, Value.slice none 0 0].toList 8 = some ([.lit (.int .i64 0), .lit (.int .u16 0), .nil], [], places) :=
  ⟨[], by kernel_rfl⟩

set_option maxRecDepth 100000 in
theorem lifted (os : Os) (started : os.Started) (H : Type) (enc : TypeId × Value → H) (F : Stop.Interp) :
    ReturnsInHanded {} Tryd.checked os 9 .any ((OpenSpec.ofChange Rows.calendarMonthsSpec).preRow enc Tryd.prog Tryd.f9 Rows.calendarMonthsRow.domain false Rows.calendarMonthsRow.laid) (((OpenSpec.ofChange Rows.calendarMonthsSpec).at F).post enc Tryd.prog Tryd.f9 false true false false) := by
  obtain ⟨places, hx⟩ := reads os enc
  refine returnsInHanded_of_row (C := Tryd.checked) (s := OpenSpec.ofChange Rows.calendarMonthsSpec) own started (by kernel_rfl) Tryd.func9
    (witness_row_at (enc := enc) (C := Tryd.checked) false (laidWorld os) #[.int .i64 0, .int .u16 0, .slice none 0 0] rfl (by kernel_rfl) (by kernel_rfl) (by kernel_rfl)
      (OpenSpec.preRow_of_cond 8 hx (by kernel_rfl) (fun k hk => by cases hk) (by kernel_rfl) (laid_met os))) ?_
  intro W base args ds gs before hval hW _ _ _ hL _ _
  exact contract H enc W base args ds gs before hval hW hL

theorem said : Rows.CalendarMonthsSaid :=
  OpenClaim.holds_of_cond 9 Tryd.f9 rfl rfl rfl rfl rfl rfl rfl ⟨rfl, rfl, rfl, rfl, rfl⟩ rfl rfl rfl rfl rfl (by kernel_rfl) Tryd.func9 (by kernel_rfl)
    (of_decide_eq_true (by kernel_rfl)) (by unfold Func.isWrapper; first | (rw [if_pos (by decide +kernel)]; kernel_rfl) | (rw [if_neg (by decide +kernel)]; exact ⟨rfl, rfl⟩))
    (fun os started H enc _ F => by rw [OpenClaim.pre_eq_preRow]; exact lifted os started H enc F)

set_option maxRecDepth 100000 in
/-- No parameter wants a stand-in; the program's own looks are off: what the card asks. -/
theorem plain (f : FuncId) (fn : Func) (hf : Tryd.pinned.checked.prog.funcNamed "pandect/pandectlaw04.CalendarMonths" = some f) (hfn : Tryd.pinned.checked.prog.funcs[f]? = some fn) :
    false = Tryd.pinned.checked.prog.looks [] ∧ ∀ (j : Nat) t, fn.params[j]? = some t → Tryd.pinned.checked.prog.wantsStandIn t = false := by
  obtain rfl : f = 9 := Option.some.inj ((show Tryd.prog.funcNamed "pandect/pandectlaw04.CalendarMonths" = some 9 by kernel_rfl).symm.trans hf) |>.symm
  obtain rfl : fn = Tryd.f9 := (Option.some.inj (Tryd.func9.symm.trans hfn)).symm
  refine ⟨by kernel_rfl, fun j t ht => ?_⟩
  rw [Tryd.params9] at ht
  have hm := Array.mem_of_getElem? ht
  simp only [List.mem_toArray, List.mem_cons, List.not_mem_nil, or_false] at hm
  rcases hm with rfl | rfl | rfl
  · exact wants_int
  · exact wants_u16
  · exact wants_nums

theorem card : Rows.CalendarMonthsCardSaid :=
  Claim7.holds_tied_plain_at .later [] _ _ _ _ said (fun _ h => by cases h) (by kernel_rfl) (fun _ h => by cases h) calendarMonths_row_tie rfl ⟨rfl, rfl⟩ (by kernel_rfl) rfl plain (by kernel_rfl)
end Go.Proofs.YthikonibmpngmaaDoor.calendarMonths
