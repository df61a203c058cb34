/-
  The law's term and its head: fixed examples with known answers.
-/
import Derived.Test.YthikonibmpngmaaDoorCParse
import Derived.Laws.ResultCell
import Derived.Laws.Rows
namespace Go.Proofs.YthikonibmpngmaaDoor
open Go.RowKit

set_option maxHeartbeats 1000000 in
set_option maxRecDepth 100000 in
theorem term_walk (n u : Int) (w : World) : Calls Tryd.prog 27 #[.int .i64 n, .int .i64 u] w fun e w' => e = .returned (.agg #[.int .i64 n, .int .i64 u]) ∧ Below w.heap.size w w' := by
  go_enter Tryd.func27, Tryd.ntmps27
  go_wp2
  exact bodyPost_ret (v := .agg #[.int .i64 n, .int .i64 u]) (by simp [results, Tryd.results27, go_sem]) rfl ⟨rfl, (Below.refl _ _).alloc (Nat.le_refl _) _⟩

theorem day_is {y m d a b : Int} (ha : Cal.dv y m d = a) (hb : Cal.de y m d = b) (w : World) (ht : HasTab w) : Calls Tryd.prog 13 #[.int .i64 y, .int .i64 m, .int .i64 d] w fun e w' => e = .returned (.tuple #[.int .i64 a, .int .i64 b]) ∧ w = w' := by
  subst ha; subst hb
  exact (day_det y m d w ht).mono fun _ _ ⟨h, e⟩ => ⟨h, e.symm⟩
theorem add_is {day n u a b : Int} {v : Value} {cl : List Int} (h : Cal.AddR cl day n u a b) (w : World) (ht : HasTab w) (hv : IsNums w v cl) : Calls Tryd.prog 19 #[.int .i64 day, .agg #[.int .i64 n, .int .i64 u], v] w fun e w' => e = .returned (.tuple #[.int .i64 a, .int .i64 b]) ∧ Below w.heap.size w w' := by
  refine (add_walk day n u v cl w ht hv).mono ?_
  rintro e w' ⟨p, q, rfl, hR, hb⟩
  obtain ⟨rfl, rfl⟩ := hR.uniq h
  exact ⟨rfl, hb⟩
theorem Cal.DateR.uniq {n y m d e y' m' d' e' : Int} (h : Cal.DateR n y m d e) (h' : Cal.DateR n y' m' d' e') : y = y' ∧ m = m' ∧ d = d' ∧ e = e' := by
  rcases h with ⟨a1, a2, a3, a4⟩ | ⟨a1, a2, a3, a4, a5⟩ <;> rcases h' with ⟨b1, b2, b3, b4⟩ | ⟨b1, b2, b3, b4, b5⟩
  · obtain ⟨rfl, rfl, rfl⟩ := a3.inj b3; exact ⟨rfl, rfl, rfl, a4.trans b4.symm⟩
  · exact absurd ⟨a1, a2⟩ b1
  · exact absurd ⟨b1, b2⟩ a1
  · omega
theorem date_is {n y m d e : Int} (h : Cal.DateR n y m d e) (w : World) (ht : HasTab w) : Calls Tryd.prog 15 #[.int .i64 n] w fun en w' => en = .returned (.tuple #[.int .i64 y, .int .i64 m, .int .i64 d, .int .i64 e]) ∧ w = w' := by
  refine (date_walk n w ht).mono ?_
  rintro en w' ⟨a, b, c, er, rfl, hR, rfl⟩
  obtain ⟨rfl, rfl, rfl, rfl⟩ := hR.uniq h
  exact ⟨rfl, rfl⟩
theorem wday_is {n a : Int} (h : Cal.wday n = a) (w : World) : Calls Tryd.prog 23 #[.int .i64 n] w fun e w' => e = .returned (.int .i64 a) ∧ w = w' := by
  subst h; exact weekday_walk n w
theorem work_is {d : Int} {b : Bool} {v : Value} {l : List Int} (h : Cal.opn l d = b) (w : World) (hv : IsNums w v l) : Calls Tryd.prog 25 #[.int .i64 d, v] w fun e w' => e = .returned (.bool b) ∧ w = w' := by
  subst h; exact work_walk d v l w hv
theorem term_of {day n u : Int} (h : 0 ≤ day ∧ day ≤ 1000000 ∧ 1 ≤ u ∧ u ≤ 5 ∧ 0 ≤ n ∧ n ≤ 1000000) : Cal.IsTerm day n u := h

theorem step_work {cl : List Int} {day n v e : Int} (hn : n ≠ 0) (h : Cal.Next (fun x => decide (Cal.cnt (Cal.opn cl) day (x - day).toNat = n)) (day + 1) v e) : Cal.Step cl day 5 n v e := by
  simp only [Cal.Step, Cal.WorkL]
  rw [if_neg (by decide), if_neg (by decide), if_neg (by decide), if_neg (by decide), if_neg hn]
  exact h
theorem step_mon {cl : List Int} {day n v e : Int} (h : Cal.Mon day n v e) : Cal.Step cl day 3 n v e := by
  simp only [Cal.Step]
  rw [if_neg (by decide), if_neg (by decide), if_pos trivial]
  exact h
theorem add_c1 : Cal.AddR [] 2 4 5 6 0 := by
  refine .inr (.inr ⟨term_of (by decide), by decide, 6, 0, step_work (by decide) ?_, .inl ⟨rfl, .inl ⟨rfl, by decide, by decide, by decide, fun x h1 h2 => absurd h1 (by omega)⟩⟩⟩)
  refine .inl ⟨rfl, by decide, by decide, by decide +kernel, fun x h1 h2 => ?_⟩
  have : x = 3 ∨ x = 4 ∨ x = 5 := by omega
  rcases this with rfl | rfl | rfl <;> decide +kernel
theorem add_c2 : Cal.AddR [] 2 5 5 9 0 := by
  refine .inr (.inr ⟨term_of (by decide), by decide, 9, 0, step_work (by decide) ?_, .inl ⟨rfl, .inl ⟨rfl, by decide, by decide, by decide, fun x h1 h2 => absurd h1 (by omega)⟩⟩⟩)
  refine .inl ⟨rfl, by decide, by decide, by decide +kernel, fun x h1 h2 => ?_⟩
  have : x = 3 ∨ x = 4 ∨ x = 5 ∨ x = 6 ∨ x = 7 ∨ x = 8 := by omega
  rcases this with rfl | rfl | rfl | rfl | rfl | rfl <;> decide +kernel
theorem add_c3 : Cal.AddR [] 2 5 1 9 0 := by
  refine .inr (.inr ⟨term_of (by decide), by decide, 7, 0, ⟨rfl, rfl⟩, .inl ⟨rfl, .inl ⟨rfl, by decide, by decide, by decide, fun x h1 h2 => ?_⟩⟩⟩)
  have : x = 7 ∨ x = 8 := by omega
  rcases this with rfl | rfl <;> decide +kernel
theorem add_c4 : Cal.AddR [] 30 1 3 59 0 := by
  refine .inr (.inr ⟨term_of (by decide), by decide, 59, 0, step_mon ⟨1600, 1, 31, ⟨by decide, by decide, ⟨by decide, by decide, by decide, by decide⟩, by decide⟩, .inr ⟨by decide, by decide, rfl⟩⟩, .inl ⟨rfl, .inl ⟨rfl, by decide, by decide, by decide, fun x h1 h2 => absurd h1 (by omega)⟩⟩⟩)
theorem date59 : Cal.IsDate 59 1600 2 29 := ⟨by decide, by decide, ⟨by decide, by decide, by decide, by decide⟩, by decide⟩
theorem date_c : Cal.DateR 59 1600 2 29 0 := .inl ⟨by decide, by decide, date59, rfl⟩

set_option maxHeartbeats 4000000 in
set_option maxRecDepth 100000 in
theorem head_walk (w : World) (ht : HasTab w) : Calls Tryd.prog 11 #[] w fun e w' => e = .returned (.bool true) ∧ Below w.heap.size w w' := by
  have HT := Lib.hid ht
  clear ht
  go_enter Tryd.func11, Tryd.ntmps11
  go_wp2_with fail
  refine (day_is (a := 59) (b := 0) (by decide) (by decide) _ HT.out).mono ?_
  rintro e w' ⟨rfl, rfl⟩
  go_wp2_with fail
  refine (day_is (a := 366) (b := 0) (by decide) (by decide) _ HT.out).mono ?_
  rintro e w' ⟨rfl, rfl⟩
  go_wp2_with fail
  refine (day_is (a := 0) (b := 1) (by decide) (by decide) _ HT.out).mono ?_
  rintro e w' ⟨rfl, rfl⟩
  go_wp2_with fail
  refine (day_is (a := 0) (b := 10) (by decide) (by decide) _ HT.out).mono ?_
  rintro e w' ⟨rfl, rfl⟩
  go_wp2_with fail
  refine (term_walk _ _ _).mono ?_
  rintro e w1 ⟨rfl, hb1⟩
  have H1 := Lib.hid hb1
  clear hb1
  go_wp2_with fail
  refine (add_is add_c1 w1 (HT.out.below H1.out) (IsNums.nil _)).mono ?_
  rintro e w2 ⟨rfl, hb⟩
  have H2 := Lib.hid (H1.out.trans (hb.mono H1.out.size))
  clear hb
  go_wp2_with fail
  refine (term_walk _ _ _).mono ?_
  rintro e w3 ⟨rfl, hb⟩
  have H3 := Lib.hid (H2.out.trans (hb.mono H2.out.size))
  clear hb
  go_wp2_with fail
  refine (add_is add_c2 w3 (HT.out.below H3.out) (IsNums.nil _)).mono ?_
  rintro e w4 ⟨rfl, hb⟩
  have H4 := Lib.hid (H3.out.trans (hb.mono H3.out.size))
  clear hb
  go_wp2_with fail
  refine (term_walk _ _ _).mono ?_
  rintro e w5 ⟨rfl, hb⟩
  have H5 := Lib.hid (H4.out.trans (hb.mono H4.out.size))
  clear hb
  go_wp2_with fail
  refine (add_is add_c3 w5 (HT.out.below H5.out) (IsNums.nil _)).mono ?_
  rintro e w6 ⟨rfl, hb⟩
  have H6 := Lib.hid (H5.out.trans (hb.mono H5.out.size))
  clear hb
  go_wp2_with fail
  refine (term_walk _ _ _).mono ?_
  rintro e w7 ⟨rfl, hb⟩
  have H7 := Lib.hid (H6.out.trans (hb.mono H6.out.size))
  clear hb
  go_wp2_with fail
  refine (add_is add_c4 w7 (HT.out.below H7.out) (IsNums.nil _)).mono ?_
  rintro e w8 ⟨rfl, hb⟩
  have H8 := Lib.hid (H7.out.trans (hb.mono H7.out.size))
  clear hb
  go_wp2_with fail
  refine (date_is date_c w8 (HT.out.below H8.out)).mono ?_
  rintro e w' ⟨rfl, rfl⟩
  go_wp2_with fail
  refine (wday_is (a := 5) (by decide) _).mono ?_
  rintro e w' ⟨rfl, rfl⟩
  go_wp2_with fail
  refine (wday_is (a := 0) (by decide) _).mono ?_
  rintro e w' ⟨rfl, rfl⟩
  go_wp2_with fail
  refine (wday_is (a := -1) (by decide) _).mono ?_
  rintro e w' ⟨rfl, rfl⟩
  go_wp2_with fail
  refine (text_walk 59 w8 (HT.out.below H8.out)).mono ?_
  rintro e w9 ⟨s, rfl, hs, hz, hb⟩
  have H9 := Lib.hid (H8.out.trans (hb.mono H8.out.size))
  have hq : (s.toList == [49, 54, 48, 48, 45, 48, 50, 45, 50, 57]) = true := by
    rw [Lib.toList_data, hs.out.uniq (.inl ⟨by decide, by decide, 1600, 2, 29, date59, rfl⟩)]
    decide
  clear hb hs
  go_wp2_with fail
  refine (work_is (b := false) (by decide) w9 (IsNums.nil _)).mono ?_
  rintro e w' ⟨rfl, rfl⟩
  go_wp2_with fail
  refine (work_is (b := true) (by decide) w9 (IsNums.nil _)).mono ?_
  rintro e w' ⟨rfl, rfl⟩
  go_wp2_with fail
  refine (work_is (b := false) (l := [2]) (by decide) _ ?_).mono ?_
  · refine ⟨_, 1, rfl, by simp, by simp, by simp, fun _ => ⟨w9.heap.size, 0, rfl, by simp, fun i hi => ?_⟩⟩
    obtain rfl : i = 0 := by simpa using hi
    exact World.cell?_alloc_at _ _ _ _ rfl
  rintro e w' ⟨rfl, rfl⟩
  have HX := Lib.hid (H9.out.alloc H9.out.size (.cells #[.int .i64 2] 3))
  go_wp2
  go_ret
  exact ⟨rfl, HX.out⟩
end Go.Proofs.YthikonibmpngmaaDoor
