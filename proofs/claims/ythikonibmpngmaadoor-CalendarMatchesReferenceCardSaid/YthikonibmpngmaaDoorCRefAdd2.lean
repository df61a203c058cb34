/-
  The walks of the reference's First with months, years, working days; Add.
-/
import Derived.Test.YthikonibmpngmaaDoorCRefAdd
namespace Go.Proofs.YthikonibmpngmaaDoor
open Go.RowKit

set_option maxHeartbeats 2000000 in
set_option maxRecDepth 100000 in
theorem reffirst_three (day n : Int) (v : Value) (l : List Int) (w : World) (h : Cal.IsTerm day n 3) :
    Calls Tryd.prog 41 #[.int .i64 day, .agg #[.int .i64 n, .int .i64 3], v] w (TwoN (Cal.FirstR l day 3 n) w) := by
  obtain ⟨i1, i2, _, _, i5, i6⟩ := h
  have HB := Lib.hid ((Below.refl w.heap.size w).alloc (Nat.le_refl _) (.cells #[.int .i64 n, .int .i64 3] 23))
  go_enter Tryd.func41, Tryd.ntmps41
  go_wp2_with fail
  refine (refdate_ok day _ i1 i2).mono ?_
  rintro e w1 ⟨y, m, d, er, rfl, ⟨hd, rfl⟩, hb⟩
  have B1 := Lib.hid (HB.out.trans (hb.mono HB.out.size))
  have HD := Lib.hid hd
  obtain ⟨y1, y2, ⟨m1, m2, d1, d2⟩, _⟩ := hd
  clear hb
  have hl := Cal.len_bd y m
  have hd31 : d ≤ 31 := by omega
  clear hl d2
  by_cases hY : 9999 < y + (m - 1 + n) / 12
  · go_wp2_with fail
    go_ret2
    exact ⟨_, _, rfl, Cal.FirstR.three (.inr ⟨rfl, rfl, Cal.mon_far HD.out i5 rfl hY⟩), B1.out⟩
  · go_wp2_with fail
    generalize hYY : y + (m - 1 + n) / 12 = Y at hY ⊢
    generalize hMM : (m - 1 + n) % 12 + 1 = M
    have hM : 1 ≤ M ∧ M ≤ 12 := by omega
    have HY := Lib.hid (And.intro hYY hMM)
    clear hYY hMM
    refine (reflen_walk Y M hM.1 hM.2 _).mono ?_
    rintro e w2 ⟨rfl, hb⟩
    have B2 := Lib.hid (B1.out.trans (hb.mono B1.out.size))
    clear hb
    obtain ⟨b, hb⟩ : ∃ b, min d (Cal.len Y M) = b := ⟨_, rfl⟩
    have HM := Lib.hid hb
    have hlb := Cal.len_bd Y M
    go_wp2_with fail
    refine (refday_walk Y M b _).mono ?_
    rintro e w3 ⟨a, er, rfl, hR, hb3⟩
    have B3 := Lib.hid (B2.out.trans (hb3.mono B2.out.size))
    have HF := Lib.hid (Cal.FirstR.three (cl := l) (Cal.mon_near HD.out i5 HY.out.1 HY.out.2 (by omega) HM.out hR))
    clear hb3 hR hb
    go_wp2_with fail
    go_ret2
    exact ⟨_, _, rfl, HF.out, B3.out⟩
set_option maxHeartbeats 2000000 in
set_option maxRecDepth 100000 in
theorem reffirst_four (day n : Int) (v : Value) (l : List Int) (w : World) (h : Cal.IsTerm day n 4) :
    Calls Tryd.prog 41 #[.int .i64 day, .agg #[.int .i64 n, .int .i64 4], v] w (TwoN (Cal.FirstR l day 4 n) w) := by
  obtain ⟨i1, i2, _, _, i5, i6⟩ := h
  have HB := Lib.hid ((Below.refl w.heap.size w).alloc (Nat.le_refl _) (.cells #[.int .i64 n, .int .i64 4] 23))
  go_enter Tryd.func41, Tryd.ntmps41
  go_wp2_with fail
  refine (refdate_ok day _ i1 i2).mono ?_
  rintro e w1 ⟨y, m, d, er, rfl, ⟨hd, rfl⟩, hb⟩
  have B1 := Lib.hid (HB.out.trans (hb.mono HB.out.size))
  have HD := Lib.hid hd
  obtain ⟨y1, y2, ⟨m1, m2, d1, d2⟩, _⟩ := hd
  clear hb
  have hl := Cal.len_bd y m
  have hd31 : d ≤ 31 := by omega
  clear hl d2
  by_cases hY : 9999 < y + (m - 1 + 12 * n) / 12
  · go_wp2_with fail
    go_ret2
    exact ⟨_, _, rfl, Cal.FirstR.four (.inr ⟨rfl, rfl, Cal.mon_far HD.out (by omega) rfl hY⟩), B1.out⟩
  · go_wp2_with fail
    generalize hYY : y + (m - 1 + 12 * n) / 12 = Y at hY ⊢
    generalize hMM : (m - 1) % 12 + 1 = M
    have hM : 1 ≤ M ∧ M ≤ 12 := by omega
    have HY := Lib.hid (And.intro hYY (show (m - 1 + 12 * n) % 12 + 1 = M by omega))
    clear hYY hMM
    refine (reflen_walk Y M hM.1 hM.2 _).mono ?_
    rintro e w2 ⟨rfl, hb⟩
    have B2 := Lib.hid (B1.out.trans (hb.mono B1.out.size))
    clear hb
    obtain ⟨b, hb⟩ : ∃ b, min d (Cal.len Y M) = b := ⟨_, rfl⟩
    have HM := Lib.hid hb
    have hlb := Cal.len_bd Y M
    go_wp2_with fail
    refine (refday_walk Y M b _).mono ?_
    rintro e w3 ⟨a, er, rfl, hR, hb3⟩
    have B3 := Lib.hid (B2.out.trans (hb3.mono B2.out.size))
    have HF := Lib.hid (Cal.FirstR.four (cl := l) (Cal.mon_near HD.out (by omega) HY.out.1 HY.out.2 (by omega) HM.out hR))
    clear hb3 hR hb
    go_wp2_with fail
    go_ret2
    exact ⟨_, _, rfl, HF.out, B3.out⟩
set_option maxHeartbeats 2000000 in
set_option maxRecDepth 100000 in
theorem reffirst_five (day n : Int) (v : Value) (l : List Int) (w : World) (hv : IsNums w v l) (h : Cal.IsTerm day n 5) :
    Calls Tryd.prog 41 #[.int .i64 day, .agg #[.int .i64 n, .int .i64 5], v] w (TwoN (Cal.FirstR l day 5 n) w) := by
  obtain ⟨i1, i2, _, _, i5, i6⟩ := h
  have HB := Lib.hid ((Below.refl w.heap.size w).alloc (Nat.le_refl _) (.cells #[.int .i64 n, .int .i64 5] 23))
  have HV := Lib.hid (hv.below HB.out)
  clear hv
  go_enter Tryd.func41, Tryd.ntmps41
  go_wp2_with fail
  go_loop [0, 9] (fun d c => ∃ x : Int, day ≤ x ∧ x ≤ 1000000 ∧ d = .int .i64 x ∧ ∃ k : Int, 0 ≤ k ∧ k ≤ n ∧ c = .int .i64 k ∧ Hid (Cal.cnt (Cal.opn l) day (x - day).toNat = k) ∧ Hid (∀ z, day ≤ z → z < x → Cal.cnt (Cal.opn l) day (z - day).toNat < n)) (fun d _ => (1000001 - intOf d).toNat)
  case atStart => exact ⟨day, Int.le_refl _, i2, rfl, 0, Int.le_refl _, i5, rfl, by show _ = _; rw [show (day - day).toNat = 0 by omega]; rfl, fun z h1 h2 => by omega⟩
  case round =>
    obtain ⟨x, hx1, hx2, rfl, k, hk1, hk2, rfl, hc, hno⟩ := hrel
    by_cases hlt : k < n
    · by_cases hmax : x < 1000000
      · have HX := Lib.hid (Cal.cnt_step (Cal.opn l) day (x + 1) (by omega))
        have HN : Hid (∀ z, day ≤ z → z < x + 1 → Cal.cnt (Cal.opn l) day (z - day).toNat < n) := fun z h1 h2 => by
          by_cases e : z = x
          · subst e; rw [hc.out]; exact hlt
          · exact hno.out z h1 (by omega)
        cases ho : Cal.opn l (x + 1)
        · have HO := Lib.hid ho
          have hw := refwork_walk (x + 1) v l _ HV.out
          rw [ho] at hw
          have HW := Lib.hid hw
          clear ho hw
          go_wp2_with fail
          refine HW.out.mono ?_
          rintro e w' ⟨rfl, rfl⟩
          go_wp2_with fail
          go_round
          case rel => exact ⟨x + 1, by omega, by omega, rfl, k, hk1, hk2, rfl, by show _ = _; rw [HX.out, HO.out, show x + 1 - 1 - day = x - day by omega, hc.out]; simp, HN⟩
          case measure => simp [intOf]; omega
        · have HO := Lib.hid ho
          have hw := refwork_walk (x + 1) v l _ HV.out
          rw [ho] at hw
          have HW := Lib.hid hw
          clear ho hw
          go_wp2_with fail
          refine HW.out.mono ?_
          rintro e w' ⟨rfl, rfl⟩
          go_wp2_with fail
          go_round
          case rel => exact ⟨x + 1, by omega, by omega, rfl, k + 1, by omega, by omega, rfl, by show _ = _; rw [HX.out, HO.out, show x + 1 - 1 - day = x - day by omega, hc.out]; simp, HN⟩
          case measure => simp [intOf]; omega
      · obtain rfl : x = 1000000 := by omega
        have HW := Lib.hid (Cal.step_five (Cal.work_none (d := 1000000) (n := n) (Int.le_refl _) (by omega) (fun z h1 h2 => by
          by_cases e : z = 1000000
          · subst e; rw [hc.out]; exact hlt
          · exact hno.out z h1 (by omega))))
        clear hmax
        go_wp2_with fail
        go_ret2
        exact ⟨_, _, rfl, .inr ⟨rfl, rfl, .inr HW.out⟩, HB.out⟩
    · obtain rfl : k = n := by omega
      have HW := Lib.hid (Cal.step_five (Cal.work_some i5 hx1 hx2 hc.out hno.out))
      clear hlt
      go_wp2_with fail
      go_ret2
      exact ⟨_, _, rfl, .inl ⟨rfl, hx2, HW.out⟩, HB.out⟩
theorem reffirst_walk (day n u : Int) (v : Value) (l : List Int) (w : World) (hv : IsNums w v l) (h : Cal.IsTerm day n u) :
    Calls Tryd.prog 41 #[.int .i64 day, .agg #[.int .i64 n, .int .i64 u], v] w (TwoN (Cal.FirstR l day u n) w) := by
  have hu : u = 1 ∨ u = 2 ∨ u = 3 ∨ u = 4 ∨ u = 5 := by have := h.2.2; omega
  rcases hu with rfl | rfl | rfl | rfl | rfl
  · exact reffirst_one day n v l w h
  · exact reffirst_two day n v l w h
  · exact reffirst_three day n v l w h
  · exact reffirst_four day n v l w h
  · exact reffirst_five day n v l w hv h
end Go.Proofs.YthikonibmpngmaaDoor
