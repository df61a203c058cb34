/-
  The walks of the reference's Leap, Length, before, Day, Is.
-/
import Derived.Test.YthikonibmpngmaaDoorCDate
namespace Go.Proofs.YthikonibmpngmaaDoor
open Go.RowKit

set_option maxHeartbeats 1000000 in
set_option maxRecDepth 100000 in
theorem refleap_in (y : Int) (h1 : 1600 ≤ y) (h2 : y ≤ 9999) (w : World) : Calls Tryd.prog 48 #[.int .i64 y] w fun e w' => e = .returned (.bool (Cal.leapB y)) ∧ w = w' := by
  rw [Cal.leap_in y (by omega) (by omega)]
  unfold Cal.lpB
  go_enter Tryd.func48, Tryd.ntmps48
  go_wp2
  all_goals (go_ret; exact ⟨by first | rfl | (congr 2 <;> simp_all; done) | (congr 2; simp_all; rw [Bool.eq_iff_iff]; simp), rfl⟩)
set_option maxHeartbeats 1000000 in
set_option maxRecDepth 100000 in
theorem refleap_any (y : Int) (w : World) : Calls Tryd.prog 48 #[.int .i64 y] w fun e w' => (∃ b, e = .returned (.bool b)) ∧ w = w' := by
  go_enter Tryd.func48, Tryd.ntmps48
  go_wp2
  all_goals (go_ret; exact ⟨⟨_, rfl⟩, rfl⟩)

set_option maxHeartbeats 2000000 in
set_option maxRecDepth 100000 in
theorem reflen_two (y : Int) (w : World) : Calls Tryd.prog 32 #[.int .i64 y, .int .i64 2] w fun e w' => e = .returned (.int .i64 (Cal.len y 2)) ∧ Below w.heap.size w w' := by
  by_cases hin : 1600 ≤ y ∧ y ≤ 9999
  · obtain ⟨h1, h2⟩ := hin
    cases hl : Cal.leapB y
    · have e : Cal.len y 2 = 28 := by simp [Cal.len, Cal.tab, hl]
      rw [e]
      have HL := Lib.hid hl
      clear hl
      go_enter Tryd.func32, Tryd.ntmps32
      go_wp2_with (go_at_call 48; refine (refleap_in y h1 h2 _).mono ?_; rintro e w' ⟨rfl, rfl⟩; rw [HL.out])
      go_ret
      exact ⟨rfl, (Below.refl _ _).alloc (Nat.le_refl _) _⟩
    · have e : Cal.len y 2 = 29 := by simp [Cal.len, hl]
      rw [e]
      have HL := Lib.hid hl
      clear hl
      go_enter Tryd.func32, Tryd.ntmps32
      go_wp2_with (go_at_call 48; refine (refleap_in y h1 h2 _).mono ?_; rintro e w' ⟨rfl, rfl⟩; rw [HL.out])
      go_ret
      exact ⟨rfl, Below.refl _ _⟩
  · have hc : y < 1600 ∨ (¬ y < 1600 ∧ 9999 < y) := by omega
    have e : Cal.len y 2 = 29 := by
      have : Cal.leapB y = true := by rcases hc with h | ⟨_, h⟩ <;> simp [Cal.leapB, h]
      simp [Cal.len, this]
    rw [e]
    clear hin
    rcases hc with h | ⟨h, h2⟩
    · go_enter Tryd.func32, Tryd.ntmps32
      go_wp2_with fail
      refine (refleap_any y w).mono ?_
      rintro e w' ⟨⟨b, rfl⟩, rfl⟩
      cases b
      all_goals
        go_wp2_with fail
        go_ret
        exact ⟨rfl, Below.refl _ _⟩
    · go_enter Tryd.func32, Tryd.ntmps32
      go_wp2_with fail
      refine (refleap_any y w).mono ?_
      rintro e w' ⟨⟨b, rfl⟩, rfl⟩
      cases b
      all_goals
        go_wp2_with fail
        go_ret
        exact ⟨rfl, Below.refl _ _⟩
set_option maxHeartbeats 2000000 in
set_option maxRecDepth 100000 in
theorem reflen_walk (y m : Int) (h1 : 1 ≤ m) (h2 : m ≤ 12) (w : World) : Calls Tryd.prog 32 #[.int .i64 y, .int .i64 m] w fun e w' => e = .returned (.int .i64 (Cal.len y m)) ∧ Below w.heap.size w w' := by
  by_cases hm : m = 2
  · subst hm; exact reflen_two y w
  · have e : Cal.len y m = Cal.tab m := by simp [Cal.len, hm]
    rw [e]
    clear e
    rcases Cal.months m h1 h2 with rfl | rfl | rfl | rfl | rfl | rfl | rfl | rfl | rfl | rfl | rfl | rfl
    all_goals first
      | exact absurd rfl hm
      | (clear hm h1 h2
         go_enter Tryd.func32, Tryd.ntmps32
         go_wp2
         go_ret
         exact ⟨rfl, (Below.refl _ _).alloc (Nat.le_refl _) _⟩)

set_option maxHeartbeats 1000000 in
set_option maxRecDepth 100000 in
theorem refbefore_walk (y : Int) (h1 : 1600 ≤ y) (h2 : y ≤ 10000) (w : World) : Calls Tryd.prog 33 #[.int .i64 y] w fun e w' => e = .returned (.int .i64 (Cal.jan y)) ∧ w = w' := by
  go_enter Tryd.func33, Tryd.ntmps33
  go_wp2
  go_ret
  exact ⟨congrArg (fun z => Ending.returned (Value.int .i64 z)) (by unfold Cal.jan; omega), rfl⟩
set_option maxHeartbeats 1000000 in
set_option maxRecDepth 100000 in
theorem refis_day (n : Int) (w : World) : Calls Tryd.prog 35 #[.int .i64 n] w fun e w' => e = .returned (.bool (Cal.isD n)) ∧ w = w' := by
  by_cases h0 : 0 ≤ n
  · by_cases h1 : n ≤ 1000000
    · rw [Cal.isD_yes h0 h1]
      go_enter Tryd.func35, Tryd.ntmps35
      go_wp2
      go_ret
      exact ⟨rfl, rfl⟩
    · rw [Cal.isD_no (by omega)]
      go_enter Tryd.func35, Tryd.ntmps35
      go_wp2
      go_ret
      exact ⟨rfl, rfl⟩
  · rw [Cal.isD_no (by omega)]
    go_enter Tryd.func35, Tryd.ntmps35
    go_wp2
    go_ret
    exact ⟨rfl, rfl⟩

set_option maxHeartbeats 1000000 in
set_option maxRecDepth 100000 in
theorem refday_bad (y m d : Int) (w : World) (h : ¬ Cal.Valid y m d) : Calls Tryd.prog 14 #[.int .i64 y, .int .i64 m, .int .i64 d] w fun e w' => e = .returned (.tuple #[.int .i64 0, .int .i64 1]) ∧ Below w.heap.size w w' := by
  by_cases h1 : m < 1
  · clear h
    go_enter Tryd.func14, Tryd.ntmps14
    go_wp2
    go_ret2
    exact ⟨rfl, Below.refl _ _⟩
  · by_cases h2 : 12 < m
    · clear h
      go_enter Tryd.func14, Tryd.ntmps14
      go_wp2
      go_ret2
      exact ⟨rfl, Below.refl _ _⟩
    · by_cases h3 : d < 1
      · clear h
        go_enter Tryd.func14, Tryd.ntmps14
        go_wp2
        go_ret2
        exact ⟨rfl, Below.refl _ _⟩
      · have h4 : Cal.len y m < d := by unfold Cal.Valid at h; omega
        have hl := Cal.len_bd y m
        clear h
        go_enter Tryd.func14, Tryd.ntmps14
        go_wp2_with (go_at_call 32; refine (reflen_walk y m (by omega) (by omega) _).mono ?_; rintro e w' ⟨rfl, hb⟩)
        go_ret2
        exact ⟨rfl, hb⟩

set_option maxHeartbeats 1000000 in
set_option maxRecDepth 100000 in
theorem refday_far (y m d : Int) (w : World) (h : Cal.Valid y m d) (hy : ¬ (1600 ≤ y ∧ y ≤ 9999)) : Calls Tryd.prog 14 #[.int .i64 y, .int .i64 m, .int .i64 d] w fun e w' => e = .returned (.tuple #[.int .i64 0, .int .i64 10]) ∧ Below w.heap.size w w' := by
  obtain ⟨h1, h2, h3, h4⟩ := h
  have hl := Cal.len_bd y m
  by_cases hc : y < 1600
  · clear hy
    go_enter Tryd.func14, Tryd.ntmps14
    go_wp2_with (go_at_call 32; refine (reflen_walk y m (by omega) (by omega) _).mono ?_; rintro e w' ⟨rfl, hb⟩)
    go_ret2
    exact ⟨rfl, hb⟩
  · have hc2 : 9999 < y := by omega
    clear hy
    go_enter Tryd.func14, Tryd.ntmps14
    go_wp2_with (go_at_call 32; refine (reflen_walk y m (by omega) (by omega) _).mono ?_; rintro e w' ⟨rfl, hb⟩)
    go_ret2
    exact ⟨rfl, hb⟩

set_option maxHeartbeats 2000000 in
set_option maxRecDepth 100000 in
theorem refday_near (y m d : Int) (w : World) (h : Cal.Valid y m d) (h5 : 1600 ≤ y) (h6 : y ≤ 9999) :
    Calls Tryd.prog 14 #[.int .i64 y, .int .i64 m, .int .i64 d] w fun e w' => e = .returned (.tuple #[.int .i64 (Cal.dayV (Cal.num y m d)), .int .i64 (Cal.dayE (Cal.num y m d))]) ∧ Below w.heap.size w w' := by
  obtain ⟨h1, h2, h3, h4⟩ := h
  have hl := Cal.len_bd y m
  have hj := Cal.jan_bd y h5 (by omega)
  go_enter Tryd.func14, Tryd.ntmps14
  go_wp2_with (first
    | (go_at_call 32; refine (reflen_walk y m (by omega) (by omega) _).mono ?_; rintro e w' ⟨rfl, hb⟩)
    | (go_at_call 33; refine (refbefore_walk y (by omega) (by omega) _).mono ?_; rintro e w' ⟨rfl, rfl⟩))
  have HB := Lib.hid hb
  clear hb
  go_loopw [8, 9] (fun n k wr => ∃ j : Int, 1 ≤ j ∧ j ≤ m ∧ k = .int .i64 j ∧ n = .int .i64 (Cal.jan y + d - 1 + Cal.cum y j) ∧ Hid (Below w.heap.size w wr)) (fun _ k _ => (13 - intOf k).toNat)
  case atStart => exact ⟨1, by omega, by omega, rfl, by rw [Cal.cum_one, Int.add_zero], HB⟩
  case round =>
    obtain ⟨j, hj1, hj2, rfl, rfl, hB⟩ := hrel
    have hc := Cal.cum_bd y j (by omega)
    have hll := Cal.len_bd y j
    by_cases hlt : j < m
    · have HS := Lib.hid (Cal.cum_succ y j hj1 (by omega))
      go_wp2_with (go_at_call 32; refine (reflen_walk y j (by omega) (by omega) _).mono ?_; rintro e w' ⟨rfl, hb⟩)
      have HB2 := Lib.hid (hB.out.trans (hb.mono hB.out.size))
      go_round
      case rel => exact ⟨j + 1, by omega, by omega, rfl, by rw [HS.out]; go_num, HB2⟩
      case measure => simp [intOf]; omega
    · obtain rfl : j = m := by omega
      have e1 : Cal.num y j d = Cal.jan y + d - 1 + Cal.cum y j := rfl
      by_cases hb : 1000000 < Cal.jan y + d - 1 + Cal.cum y j
      · have e2 : Cal.dayV (Cal.num y j d) = 0 := by rw [e1, Cal.dayV, if_pos hb]
        have e3 : Cal.dayE (Cal.num y j d) = 10 := by rw [e1, Cal.dayE, if_pos hb]
        have HE := Lib.hid (And.intro e2 e3)
        clear e1 e2 e3
        go_wp2
        go_ret2
        exact ⟨by rw [HE.out.1, HE.out.2]; rfl, hB.out⟩
      · have e2 : Cal.dayV (Cal.num y j d) = Cal.jan y + d - 1 + Cal.cum y j := by rw [e1, Cal.dayV, if_neg hb]
        have e3 : Cal.dayE (Cal.num y j d) = 0 := by rw [e1, Cal.dayE, if_neg hb]
        have HE := Lib.hid (And.intro e2 e3)
        clear e1 e2 e3
        go_wp2
        go_ret2
        exact ⟨by rw [HE.out.1, HE.out.2]; rfl, hB.out⟩

/-- A number and an error, behind some new memory. -/
def TwoN (P : Int → Int → Prop) (w : World) (e : Ending) (w' : World) : Prop := ∃ a b : Int, e = .returned (.tuple #[.int .i64 a, .int .i64 b]) ∧ P a b ∧ Below w.heap.size w w'
theorem refday_walk (y m d : Int) (w : World) : Calls Tryd.prog 14 #[.int .i64 y, .int .i64 m, .int .i64 d] w (TwoN (Cal.DayR y m d) w) := by
  by_cases h : Cal.Valid y m d
  · by_cases hy : 1600 ≤ y ∧ y ≤ 9999
    · refine (refday_near y m d w h hy.1 hy.2).mono ?_
      rintro e w' ⟨rfl, hb⟩
      refine ⟨_, _, rfl, ?_, hb⟩
      unfold Cal.dayV Cal.dayE
      by_cases hb : 1000000 < Cal.num y m d
      · rw [if_pos hb, if_pos hb]; exact .inr (.inr (.inl ⟨h, hy.1, hy.2, hb, rfl, rfl⟩))
      · rw [if_neg hb, if_neg hb]; exact .inr (.inr (.inr ⟨h, hy.1, hy.2, by omega, rfl, rfl⟩))
    · refine (refday_far y m d w h hy).mono ?_
      rintro e w' ⟨rfl, hb⟩
      exact ⟨_, _, rfl, .inr (.inl ⟨h, hy, rfl, rfl⟩), hb⟩
  · refine (refday_bad y m d w h).mono ?_
    rintro e w' ⟨rfl, hb⟩
    exact ⟨_, _, rfl, .inl ⟨h, rfl, rfl⟩, hb⟩
end Go.Proofs.YthikonibmpngmaaDoor
