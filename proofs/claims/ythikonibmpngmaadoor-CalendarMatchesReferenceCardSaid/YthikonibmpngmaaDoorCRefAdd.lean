/-
  The walks of the reference's First and Add.
-/
import Derived.Test.YthikonibmpngmaaDoorCRefDate
import Derived.Test.YthikonibmpngmaaDoorCNone
namespace Go.Proofs.YthikonibmpngmaaDoor
open Go.RowKit

/-- What the reference's first step answers: no number above the last day. -/
def Cal.FirstR (cl : List Int) (day u n v e : Int) : Prop :=
  (e = 0 ∧ v ≤ 1000000 ∧ Cal.Step cl day u n v 0) ∨ (e = 10 ∧ v = 0 ∧ ((∃ a, Cal.Step cl day u n a 0 ∧ 1000000 < a) ∨ Cal.Step cl day u n 0 10))
theorem Cal.step_one {cl : List Int} {day n : Int} : Cal.Step cl day 1 n (day + n) 0 := by simp [Cal.Step]
theorem Cal.step_two {cl : List Int} {day n : Int} : Cal.Step cl day 2 n (day + 7 * n) 0 := by simp [Cal.Step]
theorem Cal.step_three {cl : List Int} {day n v e : Int} (h : Cal.Mon day n v e) : Cal.Step cl day 3 n v e := by simpa [Cal.Step] using h
theorem Cal.step_four {cl : List Int} {day n v e : Int} (h : Cal.Mon day (12 * n) v e) : Cal.Step cl day 4 n v e := by simpa [Cal.Step] using h
theorem Cal.step_five {cl : List Int} {day n v e : Int} (h : Cal.WorkL (Cal.opn cl) day n v e) : Cal.Step cl day 5 n v e := by simpa [Cal.Step] using h
/-- The month reached, and its day. -/
theorem Cal.mon_far {day y m d n Y : Int} (h : Cal.IsDate day y m d) (_hn : 0 ≤ n) (hY : y + (m - 1 + n) / 12 = Y) (hf : 9999 < Y) : Cal.Mon day n 0 10 := by
  obtain ⟨y1, y2, ⟨m1, m2, d1, d2⟩, e⟩ := h
  have h9 := Cal.at_far (T := 12 * y + (m - 1) + n) (d := d) (by omega) d1
  rw [← Cal.later_at] at h9
  exact ⟨y, m, d, ⟨y1, y2, ⟨m1, m2, d1, d2⟩, e⟩, .inl ⟨h9, rfl, rfl⟩⟩
theorem Cal.mon_near {day y m d n Y M b v e : Int} (h : Cal.IsDate day y m d) (_hn : 0 ≤ n) (hY : y + (m - 1 + n) / 12 = Y) (hM : (m - 1 + n) % 12 + 1 = M) (hf : Y ≤ 9999) (hb : min d (Cal.len Y M) = b) (hr : Cal.DayR Y M b v e) :
    (e = 0 ∧ v ≤ 1000000 ∧ Cal.Mon day n v 0) ∨ (e = 10 ∧ v = 0 ∧ Cal.Mon day n 0 10) := by
  have hd := h
  obtain ⟨y1, y2, ⟨m1, m2, d1, d2⟩, _⟩ := h
  have hL := Cal.len_bd Y M
  have hl : Cal.later y m d n = Cal.num Y M b := by unfold Cal.later; rw [hY, hM, hb]
  have hv : Cal.Valid Y M b := ⟨by omega, by omega, by omega, by omega⟩
  rcases hr with ⟨g, _⟩ | ⟨_, g, _⟩ | ⟨_, _, _, g, g2, g3⟩ | ⟨_, _, _, g, g2, g3⟩
  · exact absurd hv g
  · exact absurd ⟨by omega, hf⟩ g
  · exact .inr ⟨g3, g2, y, m, d, hd, .inl ⟨by rw [hl]; exact g, rfl, rfl⟩⟩
  · exact .inl ⟨g3, by omega, y, m, d, hd, .inr ⟨by rw [hl]; exact g, by rw [hl]; exact g2, rfl⟩⟩
theorem Cal.FirstR.three {cl : List Int} {day n v e : Int} (h : (e = 0 ∧ v ≤ 1000000 ∧ Cal.Mon day n v 0) ∨ (e = 10 ∧ v = 0 ∧ Cal.Mon day n 0 10)) : Cal.FirstR cl day 3 n v e :=
  h.imp (fun h => ⟨h.1, h.2.1, Cal.step_three h.2.2⟩) (fun h => ⟨h.1, h.2.1, .inr (Cal.step_three h.2.2)⟩)
theorem Cal.FirstR.four {cl : List Int} {day n v e : Int} (h : (e = 0 ∧ v ≤ 1000000 ∧ Cal.Mon day (12 * n) v 0) ∨ (e = 10 ∧ v = 0 ∧ Cal.Mon day (12 * n) 0 10)) : Cal.FirstR cl day 4 n v e :=
  h.imp (fun h => ⟨h.1, h.2.1, Cal.step_four h.2.2⟩) (fun h => ⟨h.1, h.2.1, .inr (Cal.step_four h.2.2)⟩)
/-- Working days counted one after the other. -/
theorem Cal.work_none {p : Int → Bool} {day n d : Int} (hd : 1000000 ≤ d) (hn : n ≠ 0) (h : ∀ x, day ≤ x → x ≤ d → Cal.cnt p day (x - day).toNat < n) : Cal.WorkL p day n 0 10 := by
  unfold Cal.WorkL
  rw [if_neg hn]
  exact .inr ⟨rfl, rfl, fun x h1 h2 => decide_eq_false (by have := h x (by omega) (by omega); omega)⟩
theorem Cal.work_some {p : Int → Bool} {day n d : Int} (_hn0 : 0 ≤ n) (hd0 : day ≤ d) (hd : d ≤ 1000000) (hc : Cal.cnt p day (d - day).toNat = n) (h : ∀ x, day ≤ x → x < d → Cal.cnt p day (x - day).toNat < n) : Cal.WorkL p day n d 0 := by
  unfold Cal.WorkL
  by_cases e : n = 0
  · rw [if_pos e]
    refine ⟨?_, rfl⟩
    by_cases q : d = day
    · exact q
    · have := h day (Int.le_refl _) (by omega)
      have := (Cal.cnt_bd p day (day - day).toNat).1
      omega
  · rw [if_neg e]
    have hne : day + 1 ≤ d := by
      by_cases q : d = day
      · rw [q, show (day - day).toNat = 0 by omega] at hc
        simp [Cal.cnt] at hc; omega
      · omega
    exact .inl ⟨rfl, hne, hd, decide_eq_true hc, fun x h1 h2 => decide_eq_false (by have := h x (by omega) h2; omega)⟩
/-- From the first step to the end. -/
theorem Cal.FirstR.err {cl : List Int} {day n u v : Int} (ht : Cal.IsTerm day n u) (hl : cl.length ≤ 1000) (h : Cal.FirstR cl day u n v 10) : Cal.AddR cl day n u 0 10 := by
  rcases h with ⟨h, _⟩ | ⟨_, _, h⟩
  · omega
  · rcases h with ⟨a, h1, h2⟩ | h
    · exact .inr (.inr ⟨ht, hl, a, 0, h1, .inl ⟨rfl, .inr ⟨rfl, rfl, fun x g1 g2 => absurd h2 (by omega)⟩⟩⟩)
    · exact .inr (.inr ⟨ht, hl, 0, 10, h, .inr ⟨by decide, rfl, rfl⟩⟩)
theorem Cal.FirstR.ok {cl : List Int} {day n u a v e : Int} (ht : Cal.IsTerm day n u) (hl : cl.length ≤ 1000) (h : Cal.FirstR cl day u n a 0) (hn : Cal.Next (Cal.opn cl) a v e) : Cal.AddR cl day n u v e := by
  rcases h with ⟨_, _, h⟩ | ⟨h, _⟩
  · exact .inr (.inr ⟨ht, hl, a, 0, h, .inl ⟨rfl, hn⟩⟩)
  · omega

set_option maxHeartbeats 1000000 in
set_option maxRecDepth 100000 in
theorem reffirst_one (day n : Int) (v : Value) (l : List Int) (w : World) (h : Cal.IsTerm day n 1) :
    Calls Tryd.prog 41 #[.int .i64 day, .agg #[.int .i64 n, .int .i64 1], v] w (TwoN (Cal.FirstR l day 1 n) w) := by
  obtain ⟨i1, i2, _, _, i5, i6⟩ := h
  have HB := Lib.hid ((Below.refl w.heap.size w).alloc (Nat.le_refl _) (.cells #[.int .i64 n, .int .i64 1] 23))
  by_cases hc : day + n ≤ 1000000
  · go_enter Tryd.func41, Tryd.ntmps41
    go_wp2_with fail
    go_ret2
    exact ⟨_, _, rfl, .inl ⟨rfl, hc, Cal.step_one⟩, HB.out⟩
  · go_enter Tryd.func41, Tryd.ntmps41
    go_wp2_with fail
    go_ret2
    exact ⟨_, _, rfl, .inr ⟨rfl, rfl, .inl ⟨_, Cal.step_one, by omega⟩⟩, HB.out⟩
set_option maxHeartbeats 1000000 in
set_option maxRecDepth 100000 in
theorem reffirst_two (day n : Int) (v : Value) (l : List Int) (w : World) (h : Cal.IsTerm day n 2) :
    Calls Tryd.prog 41 #[.int .i64 day, .agg #[.int .i64 n, .int .i64 2], v] w (TwoN (Cal.FirstR l day 2 n) w) := by
  obtain ⟨i1, i2, _, _, i5, i6⟩ := h
  have HB := Lib.hid ((Below.refl w.heap.size w).alloc (Nat.le_refl _) (.cells #[.int .i64 n, .int .i64 2] 23))
  by_cases hc : day + 7 * n ≤ 1000000
  · go_enter Tryd.func41, Tryd.ntmps41
    go_wp2_with fail
    go_ret2
    exact ⟨_, _, rfl, .inl ⟨rfl, hc, Cal.step_two⟩, HB.out⟩
  · go_enter Tryd.func41, Tryd.ntmps41
    go_wp2_with fail
    go_ret2
    exact ⟨_, _, rfl, .inr ⟨rfl, rfl, .inl ⟨_, Cal.step_two, by omega⟩⟩, HB.out⟩
end Go.Proofs.YthikonibmpngmaaDoor
