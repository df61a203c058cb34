/-
  Months counted from the year 0: dates some months later are in the order of the months, and of the days.
-/
import Derived.Test.YthikonibmpngmaaDoorCTerm
namespace Go.Proofs.YthikonibmpngmaaDoor

/-- The day d, or the last one, of the month T (counted from the year 0). -/
def Cal.at (T d : Int) : Int := Cal.num (T / 12) (T % 12 + 1) (min d (Cal.len (T / 12) (T % 12 + 1)))
def Cal.fm (T : Int) : Int := Cal.num (T / 12) (T % 12 + 1) 1
theorem Cal.later_at {y m d n : Int} : Cal.later y m d n = Cal.at (12 * y + (m - 1) + n) d := by
  unfold Cal.later Cal.at
  rw [show (12 * y + (m - 1) + n) / 12 = y + (m - 1 + n) / 12 by omega, show (12 * y + (m - 1) + n) % 12 = (m - 1 + n) % 12 by omega]
theorem Cal.fm_succ (T : Int) (h1 : 19200 ≤ T) (h2 : T / 12 ≤ 9999) : Cal.fm (T + 1) = Cal.fm T + Cal.len (T / 12) (T % 12 + 1) := by
  unfold Cal.fm Cal.num
  by_cases h : T % 12 = 11
  · rw [show (T + 1) / 12 = T / 12 + 1 by omega, show (T + 1) % 12 = 0 by omega, h]
    have a := Cal.year_len (T / 12) (by omega) h2
    have b := Cal.cum_succ (T / 12) 12 (by omega) (by omega)
    have c := Cal.cum_one (T / 12 + 1)
    have e13 : (12 : Int) + 1 = 13 := rfl
    have e12 : (11 : Int) + 1 = 12 := rfl
    have e1 : (0 : Int) + 1 = 1 := rfl
    rw [e13] at b
    rw [e12, e1]
    omega
  · rw [show (T + 1) / 12 = T / 12 by omega, show (T + 1) % 12 = T % 12 + 1 by omega]
    have b := Cal.cum_succ (T / 12) (T % 12 + 1) (by omega) (by omega)
    omega
theorem Cal.at_fm (T d : Int) : Cal.at T d = Cal.fm T + (min d (Cal.len (T / 12) (T % 12 + 1)) - 1) := by
  unfold Cal.at Cal.fm Cal.num; omega
theorem Cal.fm_mono (T : Int) (h1 : 19200 ≤ T) (k : Nat) (h2 : (T + k) / 12 ≤ 9999) : Cal.fm T ≤ Cal.fm (T + k) := by
  induction k with
  | zero => simp
  | succ k ih =>
    have a := ih (by omega)
    have b := Cal.fm_succ (T + k) (by omega) (by omega)
    have c := Cal.len_bd ((T + k) / 12) ((T + k) % 12 + 1)
    rw [show T + ((k + 1 : Nat) : Int) = T + k + 1 by omega]
    omega
theorem Cal.at_le {T T' d d' : Int} (h1 : 19200 ≤ T) (h2 : T' / 12 ≤ 9999) (_hd : 1 ≤ d) (hd' : 1 ≤ d') (h : T < T' ∨ (T = T' ∧ d ≤ d')) : Cal.at T d ≤ Cal.at T' d' := by
  rw [Cal.at_fm, Cal.at_fm]
  have c' := Cal.len_bd (T' / 12) (T' % 12 + 1)
  rcases h with h | ⟨rfl, h⟩
  · have a := Cal.fm_succ T h1 (by omega)
    have b := Cal.fm_mono (T + 1) (by omega) (T' - T - 1).toNat (by omega)
    rw [show T + 1 + ((T' - T - 1).toNat : Int) = T' by omega] at b
    omega
  · omega
theorem Cal.at_far {T d : Int} (h : 9999 < T / 12) (hd : 1 ≤ d) : 1000000 < Cal.at T d := by
  have a := Cal.jan_mono 4338 (T / 12) (by omega) (by omega)
  have b := Cal.jan_max
  have c := Cal.cum_bd (T / 12) (T % 12 + 1) (by omega)
  have l := Cal.len_bd (T / 12) (T % 12 + 1)
  unfold Cal.at Cal.num
  omega
theorem Cal.IsDate.at {n y m d : Int} (h : Cal.IsDate n y m d) : Cal.at (12 * y + (m - 1)) d = n := by
  obtain ⟨a, b, ⟨c1, c2, c3, c4⟩, e⟩ := h
  unfold Cal.at
  rw [show (12 * y + (m - 1)) / 12 = y by omega, show (12 * y + (m - 1)) % 12 = m - 1 by omega, show m - 1 + 1 = m by omega, show min d (Cal.len y m) = d by omega]
  exact e
/-- Months later, it is not earlier; nor if one begins later, or takes more months. -/
theorem Cal.later_le {n n' y m d y' m' d' j j' : Int} (h : Cal.IsDate n y m d) (h' : Cal.IsDate n' y' m' d') (hn : n ≤ n') (hj : 0 ≤ j) (hjj : j ≤ j') (hf : Cal.later y' m' d' j' ≤ 1000000) : Cal.later y m d j ≤ Cal.later y' m' d' j' := by
  rw [Cal.later_at] at *
  rw [Cal.later_at]
  have hlex : 12 * y + (m - 1) < 12 * y' + (m' - 1) ∨ (12 * y + (m - 1) = 12 * y' + (m' - 1) ∧ d ≤ d') := by
    obtain ⟨a, b, c, e⟩ := h
    obtain ⟨a', b', c', e'⟩ := h'
    have := Cal.num_lt y' m' d' y m d a' (by omega) a (by omega) c' c
    obtain ⟨c1, c2, c3, c4⟩ := c
    obtain ⟨c1', c2', c3', c4'⟩ := c'
    have hnot : ¬ (y' < y ∨ (y' = y ∧ (m' < m ∨ (m' = m ∧ d' < d)))) := by
      intro q; have := this.2 q; omega
    omega
  obtain ⟨a, b, ⟨c1, c2, c3, c4⟩, e⟩ := h
  obtain ⟨a', b', ⟨c1', c2', c3', c4'⟩, e'⟩ := h'
  have hf' : (12 * y' + (m' - 1) + j') / 12 ≤ 9999 := by
    rcases Int.lt_or_le 9999 ((12 * y' + (m' - 1) + j') / 12) with q | q
    · have := Cal.at_far q c3'; omega
    · exact q
  exact Cal.at_le (by omega) hf' c3 c3' (by omega)
theorem Cal.later_zero {n y m d : Int} (h : Cal.IsDate n y m d) : Cal.later y m d 0 = n := by
  rw [Cal.later_at, Int.add_zero]; exact h.at
theorem Cal.later_ge {n y m d j : Int} (h : Cal.IsDate n y m d) (hj : 0 ≤ j) (hf : Cal.later y m d j ≤ 1000000) : n ≤ Cal.later y m d j := by
  have := Cal.later_le h h (Int.le_refl n) (Int.le_refl 0) hj hf
  rw [Cal.later_zero h] at this
  exact this
theorem Cal.Mon.ge {day n v e : Int} (h : Cal.Mon day n v e) (hn : 0 ≤ n) (he : e = 0) : day ≤ v := by
  obtain ⟨y, m, d, h1, h2⟩ := h
  rcases h2 with ⟨_, _, h2⟩ | ⟨h2, h3, h4⟩
  · omega
  · have := Cal.later_ge h1 hn h2; omega
/-- The first step doesn't lead back. -/
theorem Cal.Step.ge {cl : List Int} {day u n v e : Int} (h : Cal.Step cl day u n v e) (hn : 0 ≤ n) (he : e = 0) : day ≤ v := by
  unfold Cal.Step at h
  split at h
  · omega
  split at h
  · omega
  split at h
  · exact h.ge hn he
  split at h
  · exact h.ge (by omega) he
  unfold Cal.WorkL at h
  split at h
  · omega
  · rcases h with ⟨_, h, _⟩ | ⟨h, _⟩ <;> omega
end Go.Proofs.YthikonibmpngmaaDoor
