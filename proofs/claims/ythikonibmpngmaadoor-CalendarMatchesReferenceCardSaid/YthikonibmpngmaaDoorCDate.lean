/-
  The walks of calendar.Date and calendar.Weekday.
-/
import Derived.Test.YthikonibmpngmaaDoorCDay
namespace Go.Proofs.YthikonibmpngmaaDoor
open Go.RowKit

set_option maxHeartbeats 1000000 in
set_option maxRecDepth 100000 in
theorem date_no (n : Int) (w : World) (h : ¬ (0 ≤ n ∧ n ≤ 1000000)) :
    Calls Tryd.prog 15 #[.int .i64 n] w fun e w' => e = .returned (.tuple #[.int .i64 0, .int .i64 0, .int .i64 0, .int .i64 10]) ∧ w = w' := by
  have HN := Lib.hid (Cal.isD_no h)
  clear h
  go_enter Tryd.func15, Tryd.ntmps15
  go_wp2_with (go_at_call 34; refine (isday_walk n _).mono ?_; rintro e w' ⟨rfl, rfl⟩; rw [HN.out])
  exact bodyPost_ret (v := .tuple #[.int .i64 0, .int .i64 0, .int .i64 0, .int .i64 10]) (by simp [results, Tryd.results15, go_sem]) rfl ⟨rfl, rfl⟩

set_option maxHeartbeats 2000000 in
set_option maxRecDepth 100000 in
theorem date_ok (n : Int) (w : World) (h0 : 0 ≤ n) (h1 : n ≤ 1000000) (ht : HasTab w) :
    Calls Tryd.prog 15 #[.int .i64 n] w (Four (fun y m d e => Cal.IsDate n y m d ∧ e = 0) w) := by
  have HN := Lib.hid (Cal.isD_yes h0 h1)
  have HT := Lib.hid ht
  clear ht
  have g0 := Cal.jan_guess n h0
  have g1 := Cal.jan_max
  go_enter Tryd.func15, Tryd.ntmps15
  go_wp2_with (go_at_call 34; refine (isday_walk n _).mono ?_; rintro e w' ⟨rfl, rfl⟩; rw [HN.out])
  go_loop [6] (fun t => ∃ y : Int, 1600 ≤ y ∧ y ≤ 4337 ∧ Cal.jan y ≤ n ∧ t = .int .i64 y) (fun t => (4338 - intOf t).toNat)
  case atStart => exact ⟨_, by omega, by omega, g0, rfl⟩
  case round =>
    obtain ⟨y, hy1, hy2, hy3, rfl⟩ := hrel
    clear g0
    by_cases hc : Cal.jan (y + 1) ≤ n
    · have hy4 : y < 4337 := by
        by_cases e : y = 4337
        · rw [e] at hc; have : Cal.jan (4337 + 1) = 1000034 := g1; omega
        · omega
      go_wp2_with (go_at_call 31; refine (january_walk (y + 1) (by omega) (by omega) _).mono ?_; rintro e w' ⟨rfl, rfl⟩)
      go_round
      case rel => exact ⟨y + 1, by omega, by omega, hc, rfl⟩
      case measure => simp [intOf]; omega
    · have hb := Cal.jan_bd y hy1 (by omega)
      have hb1 := Cal.jan_bd (y + 1) (by omega) (by omega)
      have HY := Lib.hid (Cal.year_len y hy1 (by omega))
      go_wp2_with (go_at_call 31; refine (january_walk _ (by omega) (by omega) _).mono ?_; rintro e w' ⟨rfl, rfl⟩)
      go_loop [7, 8] (fun k r => ∃ m : Int, 1 ≤ m ∧ m ≤ 12 ∧ k = .int .i64 m ∧ 0 ≤ n - Cal.jan y - Cal.cum y m ∧ r = .int .i64 (n - Cal.jan y - Cal.cum y m)) (fun k _ => (12 - intOf k).toNat)
      case atStart => exact ⟨1, by omega, by omega, rfl, by rw [Cal.cum_one]; omega, by rw [Cal.cum_one, Int.sub_zero]⟩
      case round =>
        obtain ⟨m, hm1, hm2, rfl, hr, rfl⟩ := hrel
        have hcb := Cal.cum_bd y m (by omega)
        have hlb := Cal.len_bd y m
        have hcs := Cal.cum_succ y m hm1 hm2
        by_cases hd : Cal.len y m ≤ n - Cal.jan y - Cal.cum y m
        · have hm : m < 12 := by
            by_cases e : m = 12
            · rw [e] at hcs hd; have := HY.out; have e13 : (12 : Int) + 1 = 13 := rfl; rw [e13] at hcs; omega
            · omega
          have HS := Lib.hid hcs
          clear hcs
          go_wp2_with (go_at_call 30; refine (length_walk y m (by omega) (by omega) _ HT.out).mono ?_; rintro e w' ⟨rfl, rfl⟩)
          go_round
          case rel => exact ⟨m + 1, by omega, by omega, rfl, by rw [HS.out]; omega, by rw [HS.out]; go_num⟩
          case measure => simp [intOf]; omega
        · clear hcs
          go_wp2_with (go_at_call 30; refine (length_walk y m (by omega) (by omega) _ HT.out).mono ?_; rintro e w' ⟨rfl, rfl⟩)
          refine bodyPost_ret (v := .tuple #[.int .i64 y, .int .i64 m, .int .i64 (n - Cal.jan y - Cal.cum y m + 1), .int .i64 0]) (by simp [results, Tryd.results15, go_sem]) rfl ⟨y, m, n - Cal.jan y - Cal.cum y m + 1, 0, rfl, ⟨⟨hy1, hy2, ⟨hm1, hm2, by omega, by omega⟩, ?_⟩, rfl⟩, rfl⟩
          unfold Cal.num
          omega

theorem date_walk (n : Int) (w : World) (ht : HasTab w) : Calls Tryd.prog 15 #[.int .i64 n] w (Four (Cal.DateR n) w) := by
  by_cases h : 0 ≤ n ∧ n ≤ 1000000
  · refine (date_ok n w h.1 h.2 ht).mono ?_
    rintro e w' ⟨y, m, d, er, rfl, ⟨h1, h2⟩, rfl⟩
    exact ⟨y, m, d, er, rfl, .inl ⟨h.1, h.2, h1, h2⟩, rfl⟩
  · refine (date_no n w h).mono ?_
    rintro e w' ⟨rfl, rfl⟩
    exact ⟨0, 0, 0, 10, rfl, .inr ⟨h, rfl, rfl, rfl, rfl⟩, rfl⟩

/-- The day of the week. -/
def Cal.wday (n : Int) : Int := if 0 ≤ n ∧ n ≤ 1000000 then (5 + n) % 7 else -1
set_option maxHeartbeats 1000000 in
set_option maxRecDepth 100000 in
theorem weekday_walk (n : Int) (w : World) : Calls Tryd.prog 23 #[.int .i64 n] w fun e w' => e = .returned (.int .i64 (Cal.wday n)) ∧ w = w' := by
  by_cases h : 0 ≤ n ∧ n ≤ 1000000
  · rw [Cal.wday, if_pos h]
    obtain ⟨h0, h1⟩ := h
    have HN := Lib.hid (Cal.isD_yes h0 h1)
    go_enter Tryd.func23, Tryd.ntmps23
    go_wp2_with (go_at_call 34; refine (isday_walk n _).mono ?_; rintro e w' ⟨rfl, rfl⟩; rw [HN.out])
    go_ret
    exact ⟨rfl, rfl⟩
  · rw [Cal.wday, if_neg h]
    have HN := Lib.hid (Cal.isD_no h)
    clear h
    go_enter Tryd.func23, Tryd.ntmps23
    go_wp2_with (go_at_call 34; refine (isday_walk n _).mono ?_; rintro e w' ⟨rfl, rfl⟩; rw [HN.out])
    go_ret
    exact ⟨rfl, rfl⟩
end Go.Proofs.YthikonibmpngmaaDoor
