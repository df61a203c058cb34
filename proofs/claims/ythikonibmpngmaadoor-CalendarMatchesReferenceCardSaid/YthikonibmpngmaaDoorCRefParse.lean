/-
  The walk of the reference's Parse.
-/
import Derived.Test.YthikonibmpngmaaDoorCRefDay
import Derived.Test.YthikonibmpngmaaDoorCParse
namespace Go.Proofs.YthikonibmpngmaaDoor
open Go.RowKit

theorem ten_bytes (s : ByteArray) (h : s.size = 10) : ∃ b0 b1 b2 b3 b4 b5 b6 b7 b8 b9 : UInt8, s = ⟨#[b0, b1, b2, b3, b4, b5, b6, b7, b8, b9]⟩ := by
  obtain ⟨⟨l⟩⟩ := s
  have h : l.length = 10 := h
  rcases l with _ | ⟨b0, l⟩
  · simp at h
  rcases l with _ | ⟨b1, l⟩
  · simp at h
  rcases l with _ | ⟨b2, l⟩
  · simp at h
  rcases l with _ | ⟨b3, l⟩
  · simp at h
  rcases l with _ | ⟨b4, l⟩
  · simp at h
  rcases l with _ | ⟨b5, l⟩
  · simp at h
  rcases l with _ | ⟨b6, l⟩
  · simp at h
  rcases l with _ | ⟨b7, l⟩
  · simp at h
  rcases l with _ | ⟨b8, l⟩
  · simp at h
  rcases l with _ | ⟨b9, l⟩
  · simp at h
  rcases l with _ | ⟨b, l⟩
  · exact ⟨b0, b1, b2, b3, b4, b5, b6, b7, b8, b9, rfl⟩
  · simp at h

set_option maxHeartbeats 1000000 in
set_option maxRecDepth 100000 in
theorem refparse_short (s : ByteArray) (h : s.size ≠ 10) (_hs : s.size ≤ 9223372036854775807) (w : World) : Calls Tryd.prog 18 #[.string s] w (TwoN (Cal.ParseR s.data.toList) w) := by
  have HR := Lib.hid (Cal.parse_len (t := s.data.toList) (by rw [← Lib.size_eq]; exact h))
  obtain ⟨n, hn⟩ : ∃ n, n = s.size := ⟨_, rfl⟩
  have h1 : ((s.size : Int) != 10) = true := by simp; omega
  clear h
  go_enter Tryd.func18, Tryd.ntmps18
  go_wp2
  go_ret2
  exact ⟨0, 5, rfl, HR.out, Below.refl _ _⟩

/-- What a date's text has at a place. -/
def Cal.good (j : Nat) (b : UInt8) : Prop := if j = 4 ∨ j = 7 then b.toNat = 45 else 48 ≤ b.toNat ∧ b.toNat ≤ 57
theorem Cal.dig_bd (n : Int) : 48 ≤ (Cal.dig n).toNat ∧ (Cal.dig n).toNat ≤ 57 := by rw [Cal.dig_nat]; omega
theorem Cal.txt_good (y m d : Int) (j : Nat) (hj : j < 10) : Cal.good j ((Cal.txt y m d).getD j 0) := by
  have : j = 0 ∨ j = 1 ∨ j = 2 ∨ j = 3 ∨ j = 4 ∨ j = 5 ∨ j = 6 ∨ j = 7 ∨ j = 8 ∨ j = 9 := by omega
  rcases this with rfl | rfl | rfl | rfl | rfl | rfl | rfl | rfl | rfl | rfl
  all_goals first
    | exact Cal.dig_bd _
    | rfl
theorem Cal.parse_bad {t : List UInt8} {j : Nat} (hj : j < 10) (h : ¬ Cal.good j (t.getD j 0)) : Cal.ParseR t 0 5 :=
  .inr ⟨fun n y m d _ _ e => h (by rw [e]; exact Cal.txt_good y m d j hj), rfl, rfl⟩
/-- The array of numbers. -/
def Cal.arr (l : List UInt8) (k : Nat) : Array Value := ((List.range 10).map fun j => if j < k then Value.int .i64 (((l.getD j 0).toNat : Int) - 48) else .int .i64 0).toArray
theorem Cal.arr_size (l : List UInt8) (k : Nat) : (Cal.arr l k).size = 10 := by simp [Cal.arr]
theorem Cal.arr_zero (l : List UInt8) : Cal.arr l 0 = #[.int .i64 0, .int .i64 0, .int .i64 0, .int .i64 0, .int .i64 0, .int .i64 0, .int .i64 0, .int .i64 0, .int .i64 0, .int .i64 0] := rfl
theorem Cal.arr_succ (l : List UInt8) (k : Nat) (_hk : k < 10) : (Cal.arr l k).setIfInBounds k (.int .i64 (((l.getD k 0).toNat : Int) - 48)) = Cal.arr l (k + 1) := by
  apply Array.ext
  · simp [Cal.arr]
  · intro j h1 h2
    have hj : j < 10 := by simpa [Cal.arr] using h2
    rw [Array.getElem_setIfInBounds]
    by_cases e : k = j
    · subst e; simp [Cal.arr]
    · simp only [e, if_false]
      simp only [Cal.arr, List.getElem_toArray, List.getElem_map, List.getElem_range]
      by_cases q : j < k
      · rw [if_pos q, if_pos (by omega)]
      · rw [if_neg q, if_neg (by omega)]
    · simpa [Cal.arr] using hj
theorem Cal.dig_back {b : UInt8} {n : Int} (hn : n % 10 = (b.toNat : Int) - 48) : Cal.dig n = b := by
  unfold Cal.dig
  rw [hn]
  have h : 48 ≤ b.toNat := by omega
  rw [show 48 + (((b.toNat : Int) - 48).toNat) = b.toNat by omega]
  exact UInt8.ofNat_toNat
theorem Cal.low_is {b : UInt8} (h : 48 ≤ b.toNat ∧ b.toNat ≤ 57) : Cal.low b = (b.toNat : Int) - 48 := by unfold Cal.low; omega
/-- Good bytes, and their three numbers. -/
theorem Cal.parse_good {b0 b1 b2 b3 b4 b5 b6 b7 b8 b9 : UInt8} (h : ∀ j, j < 10 → Cal.good j ([b0, b1, b2, b3, b4, b5, b6, b7, b8, b9].getD j 0)) {v e : Int}
    (hr : Cal.DayR (1000 * ((b0.toNat : Int) - 48) + 100 * ((b1.toNat : Int) - 48) + 10 * ((b2.toNat : Int) - 48) + ((b3.toNat : Int) - 48)) (10 * ((b5.toNat : Int) - 48) + ((b6.toNat : Int) - 48)) (10 * ((b8.toNat : Int) - 48) + ((b9.toNat : Int) - 48)) v e) :
    (e = 0 → Cal.ParseR [b0, b1, b2, b3, b4, b5, b6, b7, b8, b9] v 0) ∧ (e ≠ 0 → Cal.ParseR [b0, b1, b2, b3, b4, b5, b6, b7, b8, b9] 0 5) := by
  have g0 : 48 ≤ b0.toNat ∧ b0.toNat ≤ 57 := h 0 (by decide)
  have g1 : 48 ≤ b1.toNat ∧ b1.toNat ≤ 57 := h 1 (by decide)
  have g2 : 48 ≤ b2.toNat ∧ b2.toNat ≤ 57 := h 2 (by decide)
  have g3 : 48 ≤ b3.toNat ∧ b3.toNat ≤ 57 := h 3 (by decide)
  have g4 : b4.toNat = 45 := h 4 (by decide)
  have g5 : 48 ≤ b5.toNat ∧ b5.toNat ≤ 57 := h 5 (by decide)
  have g6 : 48 ≤ b6.toNat ∧ b6.toNat ≤ 57 := h 6 (by decide)
  have g7 : b7.toNat = 45 := h 7 (by decide)
  have g8 : 48 ≤ b8.toNat ∧ b8.toNat ≤ 57 := h 8 (by decide)
  have g9 : 48 ≤ b9.toNat ∧ b9.toNat ≤ 57 := h 9 (by decide)
  clear h
  obtain ⟨y, hy⟩ : ∃ y, y = 1000 * ((b0.toNat : Int) - 48) + 100 * ((b1.toNat : Int) - 48) + 10 * ((b2.toNat : Int) - 48) + ((b3.toNat : Int) - 48) := ⟨_, rfl⟩
  obtain ⟨m, hm⟩ : ∃ m, m = 10 * ((b5.toNat : Int) - 48) + ((b6.toNat : Int) - 48) := ⟨_, rfl⟩
  obtain ⟨d, hd⟩ : ∃ d, d = 10 * ((b8.toNat : Int) - 48) + ((b9.toNat : Int) - 48) := ⟨_, rfl⟩
  rw [← hy, ← hm, ← hd] at hr
  obtain ⟨rfl, rfl⟩ := hr.det
  have e4 : b4 = 45 := UInt8.toNat_inj.1 g4
  have e7 : b7 = 45 := UInt8.toNat_inj.1 g7
  have ht : [b0, b1, b2, b3, b4, b5, b6, b7, b8, b9] = Cal.txt y m d := by
    simp only [Cal.txt, Cal.four, Cal.two, List.cons_append, List.nil_append]
    rw [Cal.dig_back (b := b0) (n := y / 1000) (by omega), Cal.dig_back (b := b1) (n := y / 100) (by omega), Cal.dig_back (b := b2) (n := y / 10) (by omega), Cal.dig_back (b := b3) (n := y) (by omega),
      Cal.dig_back (b := b5) (n := m / 10) (by omega), Cal.dig_back (b := b6) (n := m) (by omega), Cal.dig_back (b := b8) (n := d / 10) (by omega), Cal.dig_back (b := b9) (n := d) (by omega), e4, e7]
  refine ⟨fun he => ?_, fun he => Cal.parse_no ?_⟩
  · obtain ⟨q1, q2⟩ := Cal.de_zero he
    exact .inl ⟨y, m, d, q1, q2, ht, rfl⟩
  · have p1 : Cal.py [b0, b1, b2, b3, b4, b5, b6, b7, b8, b9] = y := by
      show Cal.numb [b0, b1, b2, b3] = y
      simp only [Cal.numb, List.foldl_cons, List.foldl_nil, Cal.low_is g0, Cal.low_is g1, Cal.low_is g2, Cal.low_is g3]
      omega
    have p2 : Cal.pm [b0, b1, b2, b3, b4, b5, b6, b7, b8, b9] = m := by
      show Cal.numb [b5, b6] = m
      simp only [Cal.numb, List.foldl_cons, List.foldl_nil, Cal.low_is g5, Cal.low_is g6]
      omega
    have p3 : Cal.pd [b0, b1, b2, b3, b4, b5, b6, b7, b8, b9] = d := by
      show Cal.numb [b8, b9] = d
      simp only [Cal.numb, List.foldl_cons, List.foldl_nil, Cal.low_is g8, Cal.low_is g9]
      omega
    rw [p1, p2, p3]
    exact he

set_option maxHeartbeats 2000000 in
set_option maxRecDepth 100000 in
theorem refparse_ten (b0 b1 b2 b3 b4 b5 b6 b7 b8 b9 : UInt8) (w : World) : Calls Tryd.prog 18 #[.string ⟨#[b0, b1, b2, b3, b4, b5, b6, b7, b8, b9]⟩] w (TwoN (Cal.ParseR [b0, b1, b2, b3, b4, b5, b6, b7, b8, b9]) w) := by
  obtain ⟨l, hl⟩ : ∃ l, l = [b0, b1, b2, b3, b4, b5, b6, b7, b8, b9] := ⟨_, rfl⟩
  obtain ⟨s, hs⟩ : ∃ s : ByteArray, s = ⟨#[b0, b1, b2, b3, b4, b5, b6, b7, b8, b9]⟩ := ⟨_, rfl⟩
  have hz : s.size = 10 := by rw [hs]; rfl
  have hg : ∀ k (h : k < 10), s[k]'(by omega) = l.getD k 0 := by
    intro k h
    subst hs hl
    have : k = 0 ∨ k = 1 ∨ k = 2 ∨ k = 3 ∨ k = 4 ∨ k = 5 ∨ k = 6 ∨ k = 7 ∨ k = 8 ∨ k = 9 := by omega
    rcases this with rfl | rfl | rfl | rfl | rfl | rfl | rfl | rfl | rfl | rfl <;> rfl
  rw [← hs, ← hl]
  have HS := Lib.hid hs
  have HL := Lib.hid hl
  have HG := Lib.hid hg
  have HB : Hid (∀ k, Below w.heap.size w (w.alloc (.cells (Cal.arr l k) 52))) := fun k => (Below.refl w.heap.size w).alloc (Nat.le_refl _) (.cells (Cal.arr l k) 52)
  clear hs hl hg
  go_enter Tryd.func18, Tryd.ntmps18
  go_wp2_with fail
  go_loopw [5] (fun i wr => ∃ k : Nat, k ≤ 10 ∧ i = .int .i64 k ∧ wr = w.alloc (.cells (Cal.arr l k) 52) ∧ Hid (∀ j, j < k → Cal.good j (l.getD j 0))) (fun i _ => 10 - (intOf i).toNat)
  case atStart => exact ⟨0, Nat.zero_le _, rfl, rfl, fun j h => absurd h (by omega)⟩
  case round =>
    obtain ⟨k, hk, rfl, rfl, hgood⟩ := hrel
    by_cases hlt : k < 10
    · obtain ⟨b, hb⟩ : ∃ b, b = s[k]'(by omega) := ⟨_, rfl⟩
      have hbl : b = l.getD k 0 := hb.trans (HG.out k hlt)
      have hbn := b.toNat_lt
      obtain ⟨n, hn⟩ : ∃ n, b.toNat = n := ⟨_, rfl⟩
      have HNB := Lib.hid hn
      have HBL := Lib.hid hbl
      have hsz := Cal.arr_size l k
      have HA := Lib.hid (Cal.arr_succ l k hlt)
      by_cases hg : Cal.good k b
      · have HN : Hid (∀ j, j < k + 1 → Cal.good j (l.getD j 0)) := fun j h => by
          by_cases e : j = k
          · subst e; rw [← HBL.out]; exact hg
          · exact hgood.out j (by omega)
        unfold Cal.good at hg
        rw [hn] at hg hbn
        rw [hb] at hn
        clear hbl
        by_cases h4 : k = 4
        · rw [if_pos (by omega)] at hg
          subst h4 hg
          go_wp2_with fail
          go_roundw
          case rel => exact ⟨_, by omega, by go_num, by first | (rw [← HA.out, ← HBL.out, HNB.out]; done) | (rw [← HA.out, ← HBL.out, HNB.out]; rfl), HN⟩
          case measure => first | (simp [intOf]; done) | (simp [intOf]; omega)
        · by_cases h7 : k = 7
          · rw [if_pos (by omega)] at hg
            subst h7 hg
            go_wp2_with fail
            go_roundw
            case rel => exact ⟨_, by omega, by go_num, by first | (rw [← HA.out, ← HBL.out, HNB.out]; done) | (rw [← HA.out, ← HBL.out, HNB.out]; rfl), HN⟩
            case measure => first | (simp [intOf]; done) | (simp [intOf]; omega)
          · rw [if_neg (by omega)] at hg
            obtain ⟨g1, g2⟩ := hg
            have k4 : ((k : Int) == 4) = false := by simp; omega
            have k7 : ((k : Int) == 7) = false := by simp; omega
            have k4' : ((k : Int) != 4) = true := by simp; omega
            have k7' : ((k : Int) != 7) = true := by simp; omega
            have n5 : ((n : Int) == 45) = false := by simp; omega
            go_wp2_with fail
            go_roundw
            case rel => exact ⟨_, by omega, by go_num, by first | (rw [← HA.out, ← HBL.out, HNB.out]; done) | (rw [← HA.out, ← HBL.out, HNB.out]; rfl), HN⟩
            case measure => first | (simp [intOf]; done) | (simp [intOf]; omega)
      · have HP := Lib.hid (Cal.parse_bad (t := l) hlt (by rw [← hbl]; exact hg))
        unfold Cal.good at hg
        rw [hn] at hg hbn
        rw [hb] at hn
        clear hbl HA HNB HBL
        by_cases h4 : k = 4
        · rw [if_pos (by omega)] at hg
          subst h4
          have n5 : ((n : Int) == 45) = false := by simp; omega
          go_wp2_with fail
          go_ret2
          exact ⟨0, 5, rfl, HP.out, HB.out _⟩
        · by_cases h7 : k = 7
          · rw [if_pos (by omega)] at hg
            subst h7
            have n5 : ((n : Int) == 45) = false := by simp; omega
            go_wp2_with fail
            go_ret2
            exact ⟨0, 5, rfl, HP.out, HB.out _⟩
          · rw [if_neg (by omega)] at hg
            have k4 : ((k : Int) == 4) = false := by simp; omega
            have k7 : ((k : Int) == 7) = false := by simp; omega
            have k4' : ((k : Int) != 4) = true := by simp; omega
            have k7' : ((k : Int) != 7) = true := by simp; omega
            by_cases h5 : n = 45
            · subst h5
              go_wp2_with fail
              go_ret2
              exact ⟨0, 5, rfl, HP.out, HB.out _⟩
            · have n5 : ((n : Int) == 45) = false := by simp; omega
              by_cases h8 : n < 48
              · have h8' : (n : Int) < 48 := by omega
                go_wp2_with fail
                go_ret2
                exact ⟨0, 5, rfl, HP.out, HB.out _⟩
              · have h8' : ¬ (n : Int) < 48 := by omega
                have h9 : (57 : Int) < n := by omega
                go_wp2_with fail
                go_ret2
                exact ⟨0, 5, rfl, HP.out, HB.out _⟩
    · obtain rfl : k = 10 := by omega
      have HAL : Hid (Cal.arr l 10 = #[.int .i64 ((b0.toNat : Int) - 48), .int .i64 ((b1.toNat : Int) - 48), .int .i64 ((b2.toNat : Int) - 48), .int .i64 ((b3.toNat : Int) - 48), .int .i64 ((b4.toNat : Int) - 48), .int .i64 ((b5.toNat : Int) - 48), .int .i64 ((b6.toNat : Int) - 48), .int .i64 ((b7.toNat : Int) - 48), .int .i64 ((b8.toNat : Int) - 48), .int .i64 ((b9.toNat : Int) - 48)]) := by
        show _ = _
        rw [HL.out]; rfl
      have HQ : Hid (∀ v e, Cal.DayR (1000 * ((b0.toNat : Int) - 48) + 100 * ((b1.toNat : Int) - 48) + 10 * ((b2.toNat : Int) - 48) + ((b3.toNat : Int) - 48)) (10 * ((b5.toNat : Int) - 48) + ((b6.toNat : Int) - 48)) (10 * ((b8.toNat : Int) - 48) + ((b9.toNat : Int) - 48)) v e → (e = 0 → Cal.ParseR l v 0) ∧ (e ≠ 0 → Cal.ParseR l 0 5)) := by
        intro v e h
        rw [HL.out]
        exact Cal.parse_good (by rw [← HL.out]; exact hgood.out) h
      have hbd : ∀ b : UInt8, 0 ≤ (b.toNat : Int) ∧ (b.toNat : Int) ≤ 255 := fun b => by have := b.toNat_lt; omega
      have q0 := hbd b0
      have q1 := hbd b1
      have q2 := hbd b2
      have q3 := hbd b3
      have q5 := hbd b5
      have q6 := hbd b6
      have q8 := hbd b8
      have q9 := hbd b9
      clear hbd
      rw [HAL.out]
      have HB9 := Lib.hid (HB.out 10)
      rw [HAL.out] at HB9
      go_wp2_with fail
      refine (refday_walk _ _ _ _).mono ?_
      rintro e w1 ⟨v, er, rfl, hR, hb⟩
      have B1 := Lib.hid (HB9.out.trans (hb.mono HB9.out.size))
      obtain ⟨p1, p2⟩ := HQ.out _ _ hR
      clear hR hb q0 q1 q2 q3 q5 q6 q8 q9
      by_cases he : er = 0
      · have P1 := Lib.hid (p1 he)
        clear p1 p2
        subst he
        go_wp2_with fail
        go_ret2
        exact ⟨_, _, rfl, P1.out, B1.out⟩
      · have P2 := Lib.hid (p2 he)
        have hq : (er != 0) = true := by simpa using he
        clear p1 p2 he
        go_wp2_with fail
        go_ret2
        exact ⟨_, _, rfl, P2.out, B1.out⟩

theorem refparse_walk (s : ByteArray) (hs : s.size ≤ 9223372036854775807) (w : World) : Calls Tryd.prog 18 #[.string s] w (TwoN (Cal.ParseR s.data.toList) w) := by
  by_cases h : s.size = 10
  · obtain ⟨b0, b1, b2, b3, b4, b5, b6, b7, b8, b9, rfl⟩ := ten_bytes s h
    exact refparse_ten b0 b1 b2 b3 b4 b5 b6 b7 b8 b9 w
  · exact refparse_short s h hs w
end Go.Proofs.YthikonibmpngmaaDoor
