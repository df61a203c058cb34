/-
  The walks of calendar.Day, calendar.Date and calendar.Weekday.
-/
import Derived.Test.YthikonibmpngmaaDoorCTabs
namespace Go.Proofs.YthikonibmpngmaaDoor
open Go.RowKit

/-- What Day answers (D1). -/
def Cal.DayR (y m d v e : Int) : Prop :=
  (¬ Cal.Valid y m d ∧ v = 0 ∧ e = 1) ∨ (Cal.Valid y m d ∧ ¬ (1600 ≤ y ∧ y ≤ 9999) ∧ v = 0 ∧ e = 10) ∨ (Cal.Valid y m d ∧ 1600 ≤ y ∧ y ≤ 9999 ∧ 1000000 < Cal.num y m d ∧ v = 0 ∧ e = 10) ∨
  (Cal.Valid y m d ∧ 1600 ≤ y ∧ y ≤ 9999 ∧ Cal.num y m d ≤ 1000000 ∧ v = Cal.num y m d ∧ e = 0)
/-- What Date answers. -/
def Cal.DateR (n y m d e : Int) : Prop := (0 ≤ n ∧ n ≤ 1000000 ∧ Cal.IsDate n y m d ∧ e = 0) ∨ (¬ (0 ≤ n ∧ n ≤ 1000000) ∧ y = 0 ∧ m = 0 ∧ d = 0 ∧ e = 10)
/-- A number and an error. -/
def Two (P : Int → Int → Prop) (w : World) (e : Ending) (w' : World) : Prop := ∃ a b : Int, e = .returned (.tuple #[.int .i64 a, .int .i64 b]) ∧ P a b ∧ w = w'
def Four (P : Int → Int → Int → Int → Prop) (w : World) (e : Ending) (w' : World) : Prop := ∃ a b c d : Int, e = .returned (.tuple #[.int .i64 a, .int .i64 b, .int .i64 c, .int .i64 d]) ∧ P a b c d ∧ w = w'

set_option maxHeartbeats 1000000 in
set_option maxRecDepth 100000 in
theorem day_bad (y m d : Int) (w : World) (ht : HasTab w) (h : ¬ Cal.Valid y m d) : Calls Tryd.prog 13 #[.int .i64 y, .int .i64 m, .int .i64 d] w fun e w' => e = .returned (.tuple #[.int .i64 0, .int .i64 1]) ∧ w = w' := by
  have HT := Lib.hid ht
  clear ht
  by_cases h1 : m < 1
  · clear h
    go_enter Tryd.func13, Tryd.ntmps13
    go_wp2
    go_ret2
    exact ⟨rfl, rfl⟩
  · by_cases h2 : 12 < m
    · clear h
      go_enter Tryd.func13, Tryd.ntmps13
      go_wp2
      go_ret2
      exact ⟨rfl, rfl⟩
    · by_cases h3 : d < 1
      · clear h
        go_enter Tryd.func13, Tryd.ntmps13
        go_wp2
        go_ret2
        exact ⟨rfl, rfl⟩
      · have h4 : Cal.len y m < d := by unfold Cal.Valid at h; omega
        have hl := Cal.len_bd y m
        clear h
        go_enter Tryd.func13, Tryd.ntmps13
        go_wp2_with (go_at_call 30; refine (length_walk y m (by omega) (by omega) _ HT.out).mono ?_; rintro e w' ⟨rfl, rfl⟩)
        go_ret2
        exact ⟨rfl, rfl⟩

set_option maxHeartbeats 1000000 in
set_option maxRecDepth 100000 in
theorem day_far (y m d : Int) (w : World) (ht : HasTab w) (h : Cal.Valid y m d) (hy : ¬ (1600 ≤ y ∧ y ≤ 9999)) : Calls Tryd.prog 13 #[.int .i64 y, .int .i64 m, .int .i64 d] w fun e w' => e = .returned (.tuple #[.int .i64 0, .int .i64 10]) ∧ w = w' := by
  have HT := Lib.hid ht
  obtain ⟨h1, h2, h3, h4⟩ := h
  have hl := Cal.len_bd y m
  clear ht
  by_cases hc : y < 1600
  · clear hy
    go_enter Tryd.func13, Tryd.ntmps13
    go_wp2_with (go_at_call 30; refine (length_walk y m (by omega) (by omega) _ HT.out).mono ?_; rintro e w' ⟨rfl, rfl⟩)
    go_ret2
    exact ⟨rfl, rfl⟩
  · have hc2 : 9999 < y := by omega
    clear hy
    go_enter Tryd.func13, Tryd.ntmps13
    go_wp2_with (go_at_call 30; refine (length_walk y m (by omega) (by omega) _ HT.out).mono ?_; rintro e w' ⟨rfl, rfl⟩)
    go_ret2
    exact ⟨rfl, rfl⟩

def Cal.dayV (n : Int) : Int := if 1000000 < n then 0 else n
def Cal.dayE (n : Int) : Int := if 1000000 < n then 10 else 0

set_option maxHeartbeats 2000000 in
set_option maxRecDepth 100000 in
theorem day_near (y m d : Int) (w : World) (ht : HasTab w) (h : Cal.Valid y m d) (h5 : 1600 ≤ y) (h6 : y ≤ 9999) :
    Calls Tryd.prog 13 #[.int .i64 y, .int .i64 m, .int .i64 d] w fun e w' => e = .returned (.tuple #[.int .i64 (Cal.dayV (Cal.num y m d)), .int .i64 (Cal.dayE (Cal.num y m d))]) ∧ w = w' := by
  have HT := Lib.hid ht
  obtain ⟨h1, h2, h3, h4⟩ := h
  have hl := Cal.len_bd y m
  have hj := Cal.jan_bd y h5 (by omega)
  clear ht
  go_enter Tryd.func13, Tryd.ntmps13
  go_wp2_with (first
    | (go_at_call 30; refine (length_walk y m (by omega) (by omega) _ HT.out).mono ?_; rintro e w' ⟨rfl, rfl⟩)
    | (go_at_call 31; refine (january_walk y (by omega) (by omega) _).mono ?_; rintro e w' ⟨rfl, rfl⟩))
  go_loop [8, 9] (fun n k => ∃ j : Int, 1 ≤ j ∧ j ≤ m ∧ k = .int .i64 j ∧ n = .int .i64 (Cal.jan y + d - 1 + Cal.cum y j)) (fun _ k => (13 - intOf k).toNat)
  case atStart => exact ⟨1, by omega, by omega, rfl, by rw [Cal.cum_one, Int.add_zero]⟩
  case round =>
    obtain ⟨j, hj1, hj2, rfl, rfl⟩ := hrel
    have hc := Cal.cum_bd y j (by omega)
    have hll := Cal.len_bd y j
    by_cases hlt : j < m
    · have HS := Lib.hid (Cal.cum_succ y j hj1 (by omega))
      go_wp2_with (go_at_call 30; refine (length_walk y j (by omega) (by omega) _ HT.out).mono ?_; rintro e w' ⟨rfl, rfl⟩)
      go_round
      case rel => exact ⟨j + 1, by omega, by omega, rfl, by rw [HS.out]; go_num⟩
      case measure => simp [intOf]; omega
    · obtain rfl : j = m := by omega
      have e1 : Cal.num y j d = Cal.jan y + d - 1 + Cal.cum y j := rfl
      by_cases hb : 1000000 < Cal.jan y + d - 1 + Cal.cum y j
      · have e2 : Cal.dayV (Cal.num y j d) = 0 := by rw [e1, Cal.dayV, if_pos hb]
        have e3 : Cal.dayE (Cal.num y j d) = 10 := by rw [e1, Cal.dayE, if_pos hb]
        have HE := Lib.hid (And.intro e2 e3)
        clear e1 e2 e3
        go_wp2
        go_ret2
        exact ⟨by rw [HE.out.1, HE.out.2]; rfl, rfl⟩
      · have e2 : Cal.dayV (Cal.num y j d) = Cal.jan y + d - 1 + Cal.cum y j := by rw [e1, Cal.dayV, if_neg hb]
        have e3 : Cal.dayE (Cal.num y j d) = 0 := by rw [e1, Cal.dayE, if_neg hb]
        have HE := Lib.hid (And.intro e2 e3)
        clear e1 e2 e3
        go_wp2
        go_ret2
        exact ⟨by rw [HE.out.1, HE.out.2]; rfl, rfl⟩

theorem day_walk (y m d : Int) (w : World) (ht : HasTab w) : Calls Tryd.prog 13 #[.int .i64 y, .int .i64 m, .int .i64 d] w (Two (Cal.DayR y m d) w) := by
  by_cases h : Cal.Valid y m d
  · by_cases hy : 1600 ≤ y ∧ y ≤ 9999
    · refine (day_near y m d w ht h hy.1 hy.2).mono ?_
      rintro e w' ⟨rfl, rfl⟩
      refine ⟨_, _, rfl, ?_, rfl⟩
      unfold Cal.dayV Cal.dayE
      by_cases hb : 1000000 < Cal.num y m d
      · rw [if_pos hb, if_pos hb]; exact .inr (.inr (.inl ⟨h, hy.1, hy.2, hb, rfl, rfl⟩))
      · rw [if_neg hb, if_neg hb]; exact .inr (.inr (.inr ⟨h, hy.1, hy.2, by omega, rfl, rfl⟩))
    · refine (day_far y m d w ht h hy).mono ?_
      rintro e w' ⟨rfl, rfl⟩
      exact ⟨_, _, rfl, .inr (.inl ⟨h, hy, rfl, rfl⟩), rfl⟩
  · refine (day_bad y m d w ht h).mono ?_
    rintro e w' ⟨rfl, rfl⟩
    exact ⟨_, _, rfl, .inl ⟨h, rfl, rfl⟩, rfl⟩

end Go.Proofs.YthikonibmpngmaaDoor
