/-
  The walks of the reference's Date, Weekday, Work.
-/
import Derived.Test.YthikonibmpngmaaDoorCRefDay
import Derived.Test.YthikonibmpngmaaDoorCIn
namespace Go.Proofs.YthikonibmpngmaaDoor
open Go.RowKit

/-- Four numbers, behind some new memory. -/
def FourN (P : Int → Int → Int → Int → Prop) (w : World) (e : Ending) (w' : World) : Prop := ∃ a b c d : Int, e = .returned (.tuple #[.int .i64 a, .int .i64 b, .int .i64 c, .int .i64 d]) ∧ P a b c d ∧ Below w.heap.size w w'
set_option maxHeartbeats 1000000 in
set_option maxRecDepth 100000 in
theorem refdate_no (n : Int) (w : World) (h : ¬ (0 ≤ n ∧ n ≤ 1000000)) :
    Calls Tryd.prog 16 #[.int .i64 n] w fun e w' => e = .returned (.tuple #[.int .i64 0, .int .i64 0, .int .i64 0, .int .i64 10]) ∧ w = w' := by
  have HN := Lib.hid (Cal.isD_no h)
  clear h
  go_enter Tryd.func16, Tryd.ntmps16
  go_wp2_with (go_at_call 35; refine (refis_day n _).mono ?_; rintro e w' ⟨rfl, rfl⟩; rw [HN.out])
  exact bodyPost_ret (v := .tuple #[.int .i64 0, .int .i64 0, .int .i64 0, .int .i64 10]) (by simp [results, Tryd.results16, go_sem]) rfl ⟨rfl, rfl⟩

set_option maxHeartbeats 2000000 in
set_option maxRecDepth 100000 in
theorem refdate_ok (n : Int) (w : World) (h0 : 0 ≤ n) (h1 : n ≤ 1000000) :
    Calls Tryd.prog 16 #[.int .i64 n] w (FourN (fun y m d e => Cal.IsDate n y m d ∧ e = 0) w) := by
  have HN := Lib.hid (Cal.isD_yes h0 h1)
  have g0 := Cal.jan_guess n h0
  have g1 := Cal.jan_max
  go_enter Tryd.func16, Tryd.ntmps16
  go_wp2_with (go_at_call 35; refine (refis_day n _).mono ?_; rintro e w' ⟨rfl, rfl⟩; rw [HN.out])
  go_loop [6] (fun t => ∃ y : Int, 1600 ≤ y ∧ y ≤ 4337 ∧ Cal.jan y ≤ n ∧ t = .int .i64 y) (fun t => (4338 - intOf t).toNat)
  case atStart => exact ⟨_, by omega, by omega, g0, rfl⟩
  case round =>
    obtain ⟨y, hy1, hy2, hy3, rfl⟩ := hrel
    clear g0
    by_cases hc : Cal.jan (y + 1) ≤ n
    · have hy4 : y < 4337 := by
        by_cases e : y = 4337
        · rw [e] at hc; have : Cal.jan (4337 + 1) = 1000034 := g1; omega
        · omega
      go_wp2_with (go_at_call 33; refine (refbefore_walk (y + 1) (by omega) (by omega) _).mono ?_; rintro e w' ⟨rfl, rfl⟩)
      go_round
      case rel => exact ⟨y + 1, by omega, by omega, hc, rfl⟩
      case measure => simp [intOf]; omega
    · have hb := Cal.jan_bd y hy1 (by omega)
      have hb1 := Cal.jan_bd (y + 1) (by omega) (by omega)
      have HY := Lib.hid (Cal.year_len y hy1 (by omega))
      go_wp2_with (go_at_call 33; refine (refbefore_walk _ (by omega) (by omega) _).mono ?_; rintro e w' ⟨rfl, rfl⟩)
      go_loopw [7, 8] (fun r k wr => ∃ m : Int, 1 ≤ m ∧ m ≤ 12 ∧ k = .int .i64 m ∧ 0 ≤ n - Cal.jan y - Cal.cum y m ∧ r = .int .i64 (n - Cal.jan y - Cal.cum y m) ∧ Hid (Below w.heap.size w wr)) (fun _ k _ => (12 - intOf k).toNat)
      case atStart => exact ⟨1, by omega, by omega, rfl, by rw [Cal.cum_one]; omega, by rw [Cal.cum_one, Int.sub_zero], Below.refl _ _⟩
      case round =>
        obtain ⟨m, hm1, hm2, rfl, hr, rfl, hB⟩ := hrel
        have hcb := Cal.cum_bd y m (by omega)
        have hlb := Cal.len_bd y m
        have hcs := Cal.cum_succ y m hm1 hm2
        by_cases hd : Cal.len y m ≤ n - Cal.jan y - Cal.cum y m
        · have hm : m < 12 := by
            by_cases e : m = 12
            · rw [e] at hcs hd; have := HY.out; have e13 : (12 : Int) + 1 = 13 := rfl; rw [e13] at hcs; omega
            · omega
          have HS := Lib.hid hcs
          clear hcs
          go_wp2_with fail
          refine (reflen_walk y m (by omega) (by omega) _).mono ?_
          rintro e w1 ⟨rfl, hb2⟩
          have HB2 := Lib.hid (hB.out.trans (hb2.mono hB.out.size))
          clear hb2
          go_wp2_with fail
          refine (reflen_walk y m (by omega) (by omega) _).mono ?_
          rintro e w2 ⟨rfl, hb3⟩
          have HB3 := Lib.hid (HB2.out.trans (hb3.mono HB2.out.size))
          clear hb3
          go_wp2_with fail
          go_round
          case rel => exact ⟨m + 1, by omega, by omega, rfl, by rw [HS.out]; omega, by rw [HS.out]; go_num, HB3⟩
          case measure => simp [intOf]; omega
        · clear hcs
          go_wp2_with fail
          refine (reflen_walk y m (by omega) (by omega) _).mono ?_
          rintro e w1 ⟨rfl, hb2⟩
          have HB2 := Lib.hid (hB.out.trans (hb2.mono hB.out.size))
          clear hb2
          go_wp2_with fail
          refine bodyPost_ret (v := .tuple #[.int .i64 y, .int .i64 m, .int .i64 (n - Cal.jan y - Cal.cum y m + 1), .int .i64 0]) (by simp [results, Tryd.results16, go_sem]) rfl ⟨y, m, n - Cal.jan y - Cal.cum y m + 1, 0, rfl, ⟨⟨hy1, hy2, ⟨hm1, hm2, by omega, by omega⟩, ?_⟩, rfl⟩, HB2.out⟩
          unfold Cal.num
          omega

theorem refdate_walk (n : Int) (w : World) : Calls Tryd.prog 16 #[.int .i64 n] w (FourN (Cal.DateR n) w) := by
  by_cases h : 0 ≤ n ∧ n ≤ 1000000
  · refine (refdate_ok n w h.1 h.2).mono ?_
    rintro e w' ⟨y, m, d, er, rfl, ⟨h1, h2⟩, hb⟩
    exact ⟨y, m, d, er, rfl, .inl ⟨h.1, h.2, h1, h2⟩, hb⟩
  · refine (refdate_no n w h).mono ?_
    rintro e w' ⟨rfl, rfl⟩
    exact ⟨0, 0, 0, 10, rfl, .inr ⟨h, rfl, rfl, rfl, rfl⟩, Below.refl _ _⟩

set_option maxHeartbeats 1000000 in
set_option maxRecDepth 100000 in
theorem refwday_walk (n : Int) (w : World) : Calls Tryd.prog 24 #[.int .i64 n] w fun e w' => e = .returned (.int .i64 (Cal.wday n)) ∧ w = w' := by
  by_cases h : 0 ≤ n ∧ n ≤ 1000000
  · rw [Cal.wday, if_pos h, Int.add_comm 5 n]
    obtain ⟨h0, h1⟩ := h
    have HN := Lib.hid (Cal.isD_yes h0 h1)
    go_enter Tryd.func24, Tryd.ntmps24
    go_wp2_with (go_at_call 35; refine (refis_day n _).mono ?_; rintro e w' ⟨rfl, rfl⟩; rw [HN.out])
    go_ret
    exact ⟨rfl, rfl⟩
  · rw [Cal.wday, if_neg h]
    have HN := Lib.hid (Cal.isD_no h)
    clear h
    go_enter Tryd.func24, Tryd.ntmps24
    go_wp2_with (go_at_call 35; refine (refis_day n _).mono ?_; rintro e w' ⟨rfl, rfl⟩; rw [HN.out])
    go_ret
    exact ⟨rfl, rfl⟩

set_option maxHeartbeats 1000000 in
set_option maxRecDepth 100000 in
theorem refwork_walk (d : Int) (v : Value) (l : List Int) (w : World) (hv : IsNums w v l) : Calls Tryd.prog 26 #[.int .i64 d, v] w fun e w' => e = .returned (.bool (Cal.opn l d)) ∧ w = w' := by
  have hin := refin_walk v l d w hv
  rw [Cal.opn_of]
  obtain ⟨c, hc⟩ : ∃ c, c = l.contains d := ⟨_, rfl⟩
  rw [← hc] at hin ⊢
  have HI := Lib.hid hin
  clear hin hv hc
  by_cases h : 0 ≤ d ∧ d ≤ 1000000
  · obtain ⟨h0, h1⟩ := h
    have HN := Lib.hid (Cal.isD_yes h0 h1)
    have HD := Lib.hid (show Cal.wday d = (5 + d) % 7 by rw [Cal.wday, if_pos ⟨h0, h1⟩])
    by_cases hk : (5 + d) % 7 ≤ 4
    · rw [Cal.wk_yes ⟨h0, h1⟩ hk]
      go_enter Tryd.func26, Tryd.ntmps26
      go_wp2_with fail
      refine (refis_day d _).mono ?_
      rintro e w' ⟨rfl, rfl⟩
      rw [HN.out]
      go_wp2_with fail
      refine (refwday_walk d _).mono ?_
      rintro e w' ⟨rfl, rfl⟩
      rw [HD.out]
      go_wp2_with fail
      refine HI.out.mono ?_
      rintro e w' ⟨rfl, rfl⟩
      go_wp2_with fail
      go_ret
      exact ⟨rfl, rfl⟩
    · rw [Cal.wk_no (fun q => hk q.2)]
      go_enter Tryd.func26, Tryd.ntmps26
      go_wp2_with fail
      refine (refis_day d _).mono ?_
      rintro e w' ⟨rfl, rfl⟩
      rw [HN.out]
      go_wp2_with fail
      refine (refwday_walk d _).mono ?_
      rintro e w' ⟨rfl, rfl⟩
      rw [HD.out]
      go_wp2_with fail
      go_ret
      exact ⟨rfl, rfl⟩
  · have HN := Lib.hid (Cal.isD_no h)
    rw [Cal.wk_no (fun q => h q.1)]
    clear h
    go_enter Tryd.func26, Tryd.ntmps26
    go_wp2_with fail
    refine (refis_day d _).mono ?_
    rintro e w' ⟨rfl, rfl⟩
    rw [HN.out]
    go_wp2_with fail
    go_ret
    exact ⟨rfl, rfl⟩
end Go.Proofs.YthikonibmpngmaaDoor
