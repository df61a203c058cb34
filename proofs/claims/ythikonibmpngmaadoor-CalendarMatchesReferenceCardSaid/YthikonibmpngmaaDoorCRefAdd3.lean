/-
  The walk of the reference's Add.
-/
import Derived.Test.YthikonibmpngmaaDoorCRefAdd2
namespace Go.Proofs.YthikonibmpngmaaDoor
open Go.RowKit

set_option maxHeartbeats 2000000 in
set_option maxRecDepth 100000 in
theorem refadd_bad (day n u : Int) (v : Value) (w : World) (h : ¬ Cal.IsTerm day n u) :
    Calls Tryd.prog 20 #[.int .i64 day, .agg #[.int .i64 n, .int .i64 u], v] w (TwoN (fun a e => a = 0 ∧ e = 1) w) := by
  have HB := Lib.hid ((Below.refl w.heap.size w).alloc (Nat.le_refl _) (.cells #[.int .i64 n, .int .i64 u] 23))
  by_cases hd : 0 ≤ day ∧ day ≤ 1000000
  · have HD := Lib.hid (Cal.isD_yes hd.1 hd.2)
    have hc : u < 1 ∨ (1 ≤ u ∧ 5 < u) ∨ (1 ≤ u ∧ u ≤ 5 ∧ n < 0) ∨ (1 ≤ u ∧ u ≤ 5 ∧ 0 ≤ n ∧ 1000000 < n) := by unfold Cal.IsTerm at h; omega
    clear h hd
    rcases hc with h | ⟨h, h2⟩ | ⟨h, h2, h3⟩ | ⟨h, h2, h3, h4⟩
    all_goals
      go_enter Tryd.func20, Tryd.ntmps20
      go_wp2_with (go_at_call 35; refine (refis_day day _).mono ?_; rintro e w' ⟨rfl, rfl⟩; rw [HD.out])
      go_ret2
      exact ⟨0, 1, rfl, ⟨rfl, rfl⟩, HB.out⟩
  · have HD := Lib.hid (Cal.isD_no hd)
    clear h hd
    go_enter Tryd.func20, Tryd.ntmps20
    go_wp2_with (go_at_call 35; refine (refis_day day _).mono ?_; rintro e w' ⟨rfl, rfl⟩; rw [HD.out])
    go_ret2
    exact ⟨0, 1, rfl, ⟨rfl, rfl⟩, HB.out⟩

set_option maxHeartbeats 2000000 in
set_option maxRecDepth 100000 in
theorem refadd_many (day n u : Int) (a : Option Addr) (l cap : Nat) (hl : 1000 < l) (hcap : l ≤ 9223372036854775807) (w : World) (h : Cal.IsTerm day n u) :
    Calls Tryd.prog 20 #[.int .i64 day, .agg #[.int .i64 n, .int .i64 u], .slice a l cap] w (TwoN (fun a e => a = 0 ∧ e = 2) w) := by
  have HB := Lib.hid ((Below.refl w.heap.size w).alloc (Nat.le_refl _) (.cells #[.int .i64 n, .int .i64 u] 23))
  have HD := Lib.hid (Cal.isD_yes h.1 h.2.1)
  obtain ⟨_, _, u1, u2, n1, n2⟩ := h
  go_enter Tryd.func20, Tryd.ntmps20
  go_wp2_with (go_at_call 35; refine (refis_day day _).mono ?_; rintro e w' ⟨rfl, rfl⟩; rw [HD.out])
  go_ret2
  exact ⟨0, 2, rfl, ⟨rfl, rfl⟩, HB.out⟩

set_option maxHeartbeats 2000000 in
set_option maxRecDepth 100000 in
theorem refadd_main (day n u : Int) (v : Value) (l : List Int) (w : World) (hv : IsNums w v l) (h : Cal.IsTerm day n u) (hl : l.length ≤ 1000) :
    Calls Tryd.prog 20 #[.int .i64 day, .agg #[.int .i64 n, .int .i64 u], v] w (TwoN (Cal.AddR l day n u) w) := by
  have hb0 := (Below.refl w.heap.size w).alloc (Nat.le_refl _) (.cells #[.int .i64 n, .int .i64 u] 23)
  have HF := Lib.hid (reffirst_walk day n u v l _ (hv.below hb0) h)
  have HV := Lib.hid hv
  have HB := Lib.hid hb0
  have HTM := Lib.hid h
  have HL := Lib.hid hl
  have HD := Lib.hid (Cal.isD_yes h.1 h.2.1)
  obtain ⟨_, _, u1, u2, n1, n2⟩ := h
  obtain ⟨a0, cap, rfl, h1, h2, _, _⟩ := hv
  clear hb0
  go_enter Tryd.func20, Tryd.ntmps20
  go_wp2_with (go_at_call 35; refine (refis_day day _).mono ?_; rintro e w' ⟨rfl, rfl⟩; rw [HD.out])
  refine HF.out.mono ?_
  rintro e w1 ⟨a, er, rfl, hR, hb⟩
  have B1 := Lib.hid (HB.out.trans (hb.mono HB.out.size))
  have V1 := Lib.hid (HV.out.below B1.out)
  have HR := Lib.hid hR
  clear hb hR
  by_cases he : er = 0
  · subst he
    have ha : a ≤ 1000000 := by
      rcases HR.out with ⟨_, h, _⟩ | ⟨h, _⟩
      · exact h
      · omega
    have ha0 : 0 ≤ a := by
      rcases HR.out with ⟨_, _, h⟩ | ⟨h, _⟩
      · have := h.ge HTM.out.2.2.2.2.1 rfl; have := HTM.out.1; omega
      · omega
    go_wp2_with fail
    go_loop [8, 9] (fun p q => ∃ x : Int, a ≤ x ∧ p = .int .i64 x ∧ Hid (∀ z, a ≤ z → z < x → Cal.opn l z = false) ∧ ((x ≤ 1000000 ∧ q = .int .i64 0) ∨ (x = 1000001 ∧ q = .int .i64 10))) (fun p _ => (1000001 - intOf p).toNat)
    case atStart => exact ⟨a, Int.le_refl _, rfl, fun z h1 h2 => by omega, .inl ⟨ha, rfl⟩⟩
    case round =>
      obtain ⟨x, hx1, rfl, hno, hx⟩ := hrel
      rcases hx with ⟨hx2, rfl⟩ | ⟨rfl, rfl⟩
      · cases ho : Cal.opn l x
        · have HN : Hid (∀ z, a ≤ z → z < x + 1 → Cal.opn l z = false) := fun z h1 h2 => by
            by_cases e : z = x
            · subst e; exact ho
            · exact hno.out z h1 (by omega)
          have hw := refwork_walk x _ l _ V1.out
          rw [ho] at hw
          have HW := Lib.hid hw
          clear ho hw
          by_cases hm : x < 1000000
          · go_wp2_with fail
            refine HW.out.mono ?_
            rintro e w' ⟨rfl, rfl⟩
            go_wp2_with fail
            go_round
            case rel => exact ⟨x + 1, by omega, rfl, HN, .inl ⟨by omega, rfl⟩⟩
            case measure => simp [intOf]; omega
          · obtain rfl : x = 1000000 := by omega
            go_wp2_with fail
            refine HW.out.mono ?_
            rintro e w' ⟨rfl, rfl⟩
            go_wp2_with fail
            go_round
            case rel => exact ⟨1000001, by omega, rfl, HN, .inr ⟨rfl, rfl⟩⟩
            case measure => simp [intOf]
        · have HA := Lib.hid (HR.out.ok HTM.out HL.out (.inl ⟨rfl, hx1, hx2, ho, hno.out⟩))
          have hw := refwork_walk x _ l _ V1.out
          rw [ho] at hw
          have HW := Lib.hid hw
          clear ho hw
          go_wp2_with fail
          refine HW.out.mono ?_
          rintro e w' ⟨rfl, rfl⟩
          go_wp2_with fail
          go_ret2
          exact ⟨_, _, rfl, HA.out, B1.out⟩
      · have HA := Lib.hid (HR.out.ok HTM.out HL.out (.inr ⟨rfl, rfl, fun z g1 g2 => hno.out z g1 (by omega)⟩))
        go_wp2_with fail
        go_ret2
        exact ⟨_, _, rfl, HA.out, B1.out⟩
  · obtain rfl : er = 10 := by
      rcases HR.out with ⟨h, _⟩ | ⟨h, _⟩
      · exact absurd h he
      · exact h
    have HA := Lib.hid (HR.out.err HTM.out HL.out)
    clear he
    go_wp2_with fail
    go_loop [8, 9] (fun p q => p = .int .i64 a ∧ q = .int .i64 10) (fun _ _ => 0)
    case atStart => exact ⟨rfl, rfl⟩
    case round =>
      obtain ⟨rfl, rfl⟩ := hrel
      go_wp2_with fail
      go_ret2
      exact ⟨_, _, rfl, HA.out, B1.out⟩

theorem refadd_walk (day n u : Int) (v : Value) (l : List Int) (w : World) (hv : IsNums w v l) :
    Calls Tryd.prog 20 #[.int .i64 day, .agg #[.int .i64 n, .int .i64 u], v] w (TwoN (Cal.AddR l day n u) w) := by
  by_cases h : Cal.IsTerm day n u
  · by_cases hl : l.length ≤ 1000
    · exact refadd_main day n u v l w hv h hl
    · obtain ⟨a, cap, rfl, h1, h2, _, _⟩ := hv
      refine (refadd_many day n u a l.length cap (by omega) (by omega) w h).mono ?_
      rintro e w' ⟨p, q, rfl, ⟨rfl, rfl⟩, hb⟩
      exact ⟨0, 2, rfl, .inr (.inl ⟨h, by omega, rfl, rfl⟩), hb⟩
  · refine (refadd_bad day n u v w h).mono ?_
    rintro e w' ⟨p, q, rfl, ⟨rfl, rfl⟩, hb⟩
    exact ⟨0, 1, rfl, .inl ⟨h, rfl, rfl⟩, hb⟩
end Go.Proofs.YthikonibmpngmaaDoor
