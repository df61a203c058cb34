/-
  The walks of calendar.isTerm, monthsLater and firstStep.
-/
import Derived.Test.YthikonibmpngmaaDoorCAdd
namespace Go.Proofs.YthikonibmpngmaaDoor
open Go.RowKit Go.Maps

def Cal.isT (n u : Int) : Bool := decide (1 ≤ u) && decide (u ≤ 5) && decide (0 ≤ n) && decide (n ≤ 1000000)
theorem Cal.isT_yes {n u : Int} (h : 1 ≤ u ∧ u ≤ 5 ∧ 0 ≤ n ∧ n ≤ 1000000) : Cal.isT n u = true := by simp [Cal.isT, h]
theorem Cal.isT_no {n u : Int} (h : ¬ (1 ≤ u ∧ u ≤ 5 ∧ 0 ≤ n ∧ n ≤ 1000000)) : Cal.isT n u = false := by
  rw [← Bool.not_eq_true]; simp only [Cal.isT, Bool.and_eq_true, decide_eq_true_eq]; omega

set_option maxHeartbeats 1000000 in
set_option maxRecDepth 100000 in
theorem isterm_walk (n u : Int) (w : World) : Calls Tryd.prog 37 #[.agg #[.int .i64 n, .int .i64 u]] w fun e w' => e = .returned (.bool (Cal.isT n u)) ∧ Below w.heap.size w w' := by
  by_cases h1 : 1 ≤ u
  · by_cases h2 : u ≤ 5
    · by_cases h3 : 0 ≤ n
      · by_cases h4 : n ≤ 1000000
        · rw [Cal.isT_yes ⟨h1, h2, h3, h4⟩]
          go_enter Tryd.func37, Tryd.ntmps37
          go_wp2
          go_ret
          exact ⟨rfl, (Below.refl _ _).alloc (Nat.le_refl _) _⟩
        · rw [Cal.isT_no (by omega)]
          have HD := Lib.hid (show decide (n ≤ 1000000) = false by simpa using h4)
          go_enter Tryd.func37, Tryd.ntmps37
          go_wp2
          go_ret
          exact ⟨by first | rfl | exact congrArg (fun b => Ending.returned (Value.bool b)) HD.out, (Below.refl _ _).alloc (Nat.le_refl _) _⟩
      · rw [Cal.isT_no (by omega)]
        go_enter Tryd.func37, Tryd.ntmps37
        go_wp2
        go_ret
        exact ⟨rfl, (Below.refl _ _).alloc (Nat.le_refl _) _⟩
    · rw [Cal.isT_no (by omega)]
      go_enter Tryd.func37, Tryd.ntmps37
      go_wp2
      go_ret
      exact ⟨rfl, (Below.refl _ _).alloc (Nat.le_refl _) _⟩
  · rw [Cal.isT_no (by omega)]
    go_enter Tryd.func37, Tryd.ntmps37
    go_wp2
    go_ret
    exact ⟨rfl, (Below.refl _ _).alloc (Nat.le_refl _) _⟩

theorem Cal.far_num (y m d : Int) (h : 9999 < y) (hm : 1 ≤ m ∧ m ≤ 12) (hd : 1 ≤ d) : 1000000 < Cal.num y m d := by
  have := Cal.jan_mono 4338 y (by omega) (by omega)
  have := Cal.jan_max
  have := Cal.cum_bd y m (by omega)
  unfold Cal.num
  omega
theorem Cal.later_mon {day y m d n v er : Int} (h : Cal.IsDate day y m d) (hn : 0 ≤ n)
    (hr : Cal.DayR (y + (m - 1 + n) / 12) ((m - 1 + n) % 12 + 1) (min d (Cal.len (y + (m - 1 + n) / 12) ((m - 1 + n) % 12 + 1))) v er) : Cal.Mon day n v er := by
  refine ⟨y, m, d, h, ?_⟩
  obtain ⟨a, b, ⟨c1, c2, c3, c4⟩, _⟩ := h
  have hl := Cal.len_bd (y + (m - 1 + n) / 12) ((m - 1 + n) % 12 + 1)
  have hv : Cal.Valid (y + (m - 1 + n) / 12) ((m - 1 + n) % 12 + 1) (min d (Cal.len (y + (m - 1 + n) / 12) ((m - 1 + n) % 12 + 1))) := ⟨by omega, by omega, by omega, by omega⟩
  unfold Cal.later
  rcases hr with ⟨h1, _⟩ | ⟨h1, h2, h3, h4⟩ | ⟨h1, h2, h3, h4, h5, h6⟩ | ⟨h1, h2, h3, h4, h5, h6⟩
  · exact absurd hv h1
  · exact .inl ⟨Cal.far_num _ _ _ (by omega) ⟨hv.1, hv.2.1⟩ hv.2.2.1, h3, h4⟩
  · exact .inl ⟨h4, h5, h6⟩
  · exact .inr ⟨h4, h5, h6⟩

set_option maxHeartbeats 1000000 in
set_option maxRecDepth 100000 in
theorem months_walk (day n : Int) (h0 : 0 ≤ day) (h1 : day ≤ 1000000) (hn : 0 ≤ n ∧ n ≤ 12000000) (w : World) (ht : HasTab w) :
    Calls Tryd.prog 49 #[.int .i64 day, .int .i64 n] w (Two (Cal.Mon day n) w) := by
  have HC := Lib.hid (date_ok day w h0 h1 ht)
  have HT := Lib.hid ht
  clear ht
  go_enter Tryd.func49, Tryd.ntmps49
  go_wp2_with fail
  refine HC.out.mono ?_
  rintro e w' ⟨y, m, d, er, rfl, ⟨hd, rfl⟩, rfl⟩
  have HD := Lib.hid hd
  obtain ⟨y1, y2, ⟨m1, m2, d1, d2⟩, _⟩ := hd
  have hl := Cal.len_bd y m
  go_wp2_with (go_at_call 30; refine (length_walk _ _ (by omega) (by omega) _ HT.out).mono ?_; rintro e w' ⟨rfl, rfl⟩)
  refine (day_walk _ _ _ _ HT.out).mono ?_
  rintro e w' ⟨v, er, rfl, hR, rfl⟩
  have HR := Lib.hid hR
  clear hR
  go_wp2
  go_ret2
  exact ⟨v, er, rfl, Cal.later_mon HD.out hn.1 (by have h := HR.out; rw [Int.add_comm n (m - 1)] at h; exact h), rfl⟩

set_option maxHeartbeats 2000000 in
set_option maxRecDepth 100000 in
theorem first_walk (b k : Nat) (cl : List Int) (day n u : Int) (h : Cal.IsTerm day n u) (w : World) (ht : HasTab w) (hs : IsSet w b k cl) :
    Calls Tryd.prog 38 #[.int .i64 day, .agg #[.int .i64 n, .int .i64 u], Cal.openFn b] w (TwoB (Cal.Step cl day u n) (Below w.heap.size w)) := by
  obtain ⟨h0, h1, h2, h3, h4, h5⟩ := h
  have HT := Lib.hid ht
  have HS := Lib.hid hs
  have hb0 : Below w.heap.size w (w.alloc (.cells #[.int .i64 n, .int .i64 u] 23)) := (Below.refl _ _).alloc (Nat.le_refl _) _
  have HB := Lib.hid hb0
  clear ht hs hb0
  have hu : u = 1 ∨ u = 2 ∨ u = 3 ∨ u = 4 ∨ u = 5 := by omega
  rcases hu with rfl | rfl | rfl | rfl | rfl
  · go_enter Tryd.func38, Tryd.ntmps38
    go_wp2
    go_ret2
    exact ⟨_, _, rfl, by simp [Cal.Step], HB.out⟩
  · go_enter Tryd.func38, Tryd.ntmps38
    go_wp2
    go_ret2
    exact ⟨_, _, rfl, by simp [Cal.Step], HB.out⟩
  · go_enter Tryd.func38, Tryd.ntmps38
    go_wp2_with fail
    refine (months_walk day n h0 h1 (by omega) _ (HT.out.below HB.out)).mono ?_
    rintro e w' ⟨v, er, rfl, hR, rfl⟩
    have HR := Lib.hid hR
    clear hR
    go_wp2
    go_ret2
    exact ⟨v, er, rfl, by simpa [Cal.Step] using HR.out, HB.out⟩
  · go_enter Tryd.func38, Tryd.ntmps38
    go_wp2_with fail
    refine (months_walk day (12 * n) h0 h1 (by omega) _ (HT.out.below HB.out)).mono ?_
    rintro e w' ⟨v, er, rfl, hR, rfl⟩
    have HR := Lib.hid hR
    clear hR
    go_wp2
    go_ret2
    exact ⟨v, er, rfl, by simpa [Cal.Step] using HR.out, HB.out⟩
  · go_enter Tryd.func38, Tryd.ntmps38
    go_wp2_with fail
    refine (worklater_walk b k cl day n ⟨h0, h1⟩ ⟨h4, h5⟩ _ (HS.out.below HB.out)).mono ?_
    rintro e w' ⟨v, er, rfl, hR, hb⟩
    have HR := Lib.hid hR
    have HB2 := Lib.hid hb
    clear hR hb
    go_wp2
    go_ret2
    exact ⟨v, er, rfl, by simpa [Cal.Step] using HR.out, HB.out.trans (HB2.out.mono HB.out.size)⟩
end Go.Proofs.YthikonibmpngmaaDoor
