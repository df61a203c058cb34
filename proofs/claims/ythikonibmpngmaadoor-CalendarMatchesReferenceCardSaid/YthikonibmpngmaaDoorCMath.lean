/-
  The calendar in arithmetic: leap years, lengths of months, the first day of a year, the number of a date; dates are unique.
-/
namespace Go.Proofs.YthikonibmpngmaaDoor

/-- A year of 366 days, as the calendar says it. -/
def Cal.lpB (y : Int) : Bool := decide ((y % 4 = 0 ∧ ¬ y % 100 = 0) ∨ y % 400 = 0)
/-- .. and all years before the first and after the last one. -/
def Cal.leapB (y : Int) : Bool := decide (y < 1600) || decide (9999 < y) || Cal.lpB y
def Cal.lp (y : Int) : Int := if Cal.lpB y = true then 1 else 0
/-- The length of a month of a year that is no leap year. -/
def Cal.tab (m : Int) : Int := if m = 2 then 28 else if m = 4 ∨ m = 6 ∨ m = 9 ∨ m = 11 then 30 else 31
def Cal.len (y m : Int) : Int := if m = 2 ∧ Cal.leapB y = true then 29 else Cal.tab m
/-- The number of January 1. -/
def Cal.jan (y : Int) : Int := 365 * (y - 1600) + ((y - 1600 + 3) / 4 - (y - 1600 + 99) / 100 + (y - 1600 + 399) / 400)
/-- The days of a year before a month. -/
def Cal.cum (y m : Int) : Int :=
  if m ≤ 1 then 0 else if m = 2 then 31 else
  (if Cal.leapB y = true then 1 else 0) + (if m = 3 then 59 else if m = 4 then 90 else if m = 5 then 120 else if m = 6 then 151 else if m = 7 then 181 else if m = 8 then 212 else if m = 9 then 243 else if m = 10 then 273 else if m = 11 then 304 else if m = 12 then 334 else 365)
def Cal.num (y m d : Int) : Int := Cal.jan y + d - 1 + Cal.cum y m
/-- A date. -/
def Cal.Valid (y m d : Int) : Prop := 1 ≤ m ∧ m ≤ 12 ∧ 1 ≤ d ∧ d ≤ Cal.len y m
/-- The date of a day. -/
def Cal.IsDate (n y m d : Int) : Prop := 1600 ≤ y ∧ y ≤ 4337 ∧ Cal.Valid y m d ∧ Cal.num y m d = n

theorem Cal.months (m : Int) (h1 : 1 ≤ m) (h2 : m ≤ 12) : m = 1 ∨ m = 2 ∨ m = 3 ∨ m = 4 ∨ m = 5 ∨ m = 6 ∨ m = 7 ∨ m = 8 ∨ m = 9 ∨ m = 10 ∨ m = 11 ∨ m = 12 := by omega

theorem Cal.tab_bd (m : Int) : 28 ≤ Cal.tab m ∧ Cal.tab m ≤ 31 := by unfold Cal.tab; split <;> (try split) <;> omega
theorem Cal.len_bd (y m : Int) : 28 ≤ Cal.len y m ∧ Cal.len y m ≤ 31 := by
  have := Cal.tab_bd m
  unfold Cal.len; split <;> omega
theorem Cal.cum_succ (y m : Int) (h1 : 1 ≤ m) (h2 : m ≤ 12) : Cal.cum y (m + 1) = Cal.cum y m + Cal.len y m := by
  unfold Cal.cum Cal.len Cal.tab
  rcases Cal.months m h1 h2 with rfl | rfl | rfl | rfl | rfl | rfl | rfl | rfl | rfl | rfl | rfl | rfl <;> simp <;> (try (split <;> omega)) <;> omega
theorem Cal.cum_one (y : Int) : Cal.cum y 1 = 0 := by simp [Cal.cum]
theorem Cal.cum_end (y : Int) : Cal.cum y 13 = 365 + (if Cal.leapB y = true then 1 else 0) := by simp [Cal.cum]; omega
theorem Cal.cum_bd (y m : Int) (h2 : m ≤ 13) : 0 ≤ Cal.cum y m ∧ Cal.cum y m ≤ 366 := by
  by_cases h : m ≤ 1
  · simp [Cal.cum, h]
  · have : m = 2 ∨ m = 3 ∨ m = 4 ∨ m = 5 ∨ m = 6 ∨ m = 7 ∨ m = 8 ∨ m = 9 ∨ m = 10 ∨ m = 11 ∨ m = 12 ∨ m = 13 := by omega
    rcases this with rfl | rfl | rfl | rfl | rfl | rfl | rfl | rfl | rfl | rfl | rfl | rfl <;> simp [Cal.cum] <;> (split <;> omega)
theorem Cal.leap_in (y : Int) (h1 : 1600 ≤ y) (h2 : y ≤ 9999) : Cal.leapB y = Cal.lpB y := by
  simp [Cal.leapB, show ¬ y < 1600 by omega, show ¬ 9999 < y by omega]
theorem Cal.lp_01 (y : Int) : 0 ≤ Cal.lp y ∧ Cal.lp y ≤ 1 := by unfold Cal.lp; split <;> omega
theorem Cal.jan_succ (y : Int) (_h : 1600 ≤ y) : Cal.jan (y + 1) = Cal.jan y + 365 + Cal.lp y := by
  unfold Cal.jan Cal.lp Cal.lpB
  by_cases h : (y % 4 = 0 ∧ ¬ y % 100 = 0) ∨ y % 400 = 0
  · simp only [h, decide_true, if_true]; omega
  · simp only [h, decide_false, Bool.false_eq_true, if_false]; omega
theorem Cal.jan_mono (a b : Int) (_h0 : 1600 ≤ a) (h : a ≤ b) : Cal.jan a ≤ Cal.jan b := by unfold Cal.jan; omega
theorem Cal.jan_lt (a b : Int) (_h0 : 1600 ≤ a) (h : a < b) : Cal.jan a + 365 ≤ Cal.jan b := by unfold Cal.jan; omega
theorem Cal.jan_bd (y : Int) (h0 : 1600 ≤ y) (h : y ≤ 10000) : 0 ≤ Cal.jan y ∧ Cal.jan y ≤ 3070000 := by unfold Cal.jan; omega
theorem Cal.jan_guess (n : Int) (h0 : 0 ≤ n) : Cal.jan (1600 + n / 366) ≤ n := by unfold Cal.jan; omega
theorem Cal.jan_max : Cal.jan 4338 = 1000034 := by decide
theorem Cal.jan_first : Cal.jan 1600 = 0 := by decide
theorem Cal.year_len (y : Int) (h1 : 1600 ≤ y) (h2 : y ≤ 9999) : Cal.jan (y + 1) = Cal.jan y + Cal.cum y 13 := by
  rw [Cal.jan_succ y h1, Cal.cum_end, Cal.leap_in y h1 h2]; unfold Cal.lp; omega
theorem Cal.cum_mono (y a b : Int) (h0 : 1 ≤ a) (h1 : a ≤ b) (h2 : b ≤ 13) : Cal.cum y a ≤ Cal.cum y b := by
  obtain ⟨k, rfl⟩ : ∃ k : Nat, b = a + k := ⟨(b - a).toNat, by omega⟩
  clear h1
  induction k with
  | zero => simp
  | succ k ih =>
    have := Cal.cum_succ y (a + k) (by omega) (by omega)
    have l := Cal.len_bd y (a + k)
    have := ih (by omega)
    rw [show a + ((k + 1 : Nat) : Int) = a + k + 1 by omega]
    omega
/-- A date's number lies in its year. -/
theorem Cal.num_year (y m d : Int) (h1 : 1600 ≤ y) (h2 : y ≤ 9999) (hv : Cal.Valid y m d) : Cal.jan y ≤ Cal.num y m d ∧ Cal.num y m d < Cal.jan (y + 1) := by
  obtain ⟨a, b, c, e⟩ := hv
  have s := Cal.cum_succ y m a b
  have t := Cal.cum_mono y (m + 1) 13 (by omega) (by omega) (by omega)
  have u := Cal.cum_bd y m (by omega)
  have v := Cal.year_len y h1 h2
  unfold Cal.num
  omega
theorem Cal.num_inj (y m d y' m' d' : Int) (h1 : 1600 ≤ y) (h2 : y ≤ 9999) (h1' : 1600 ≤ y') (h2' : y' ≤ 9999) (hv : Cal.Valid y m d) (hv' : Cal.Valid y' m' d') (h : Cal.num y m d = Cal.num y' m' d') : y = y' ∧ m = m' ∧ d = d' := by
  have a := Cal.num_year y m d h1 h2 hv
  have b := Cal.num_year y' m' d' h1' h2' hv'
  have hy : y = y' := by
    rcases Int.lt_trichotomy y y' with q | q | q
    · have := Cal.jan_mono (y + 1) y' (by omega) (by omega); omega
    · exact q
    · have := Cal.jan_mono (y' + 1) y (by omega) (by omega); omega
  subst hy
  obtain ⟨p1, p2, p3, p4⟩ := hv
  obtain ⟨q1, q2, q3, q4⟩ := hv'
  have s := Cal.cum_succ y m p1 p2
  have s' := Cal.cum_succ y m' q1 q2
  unfold Cal.num at h
  have hm : m = m' := by
    rcases Int.lt_trichotomy m m' with q | q | q
    · have := Cal.cum_mono y (m + 1) m' (by omega) (by omega) (by omega); omega
    · exact q
    · have := Cal.cum_mono y (m' + 1) m (by omega) (by omega) (by omega); omega
  subst hm
  exact ⟨rfl, rfl, by omega⟩
/-- The later date belongs to the later day, and the other way round. -/
theorem Cal.num_lt (y m d y' m' d' : Int) (h1 : 1600 ≤ y) (h2 : y ≤ 9999) (h1' : 1600 ≤ y') (h2' : y' ≤ 9999) (hv : Cal.Valid y m d) (hv' : Cal.Valid y' m' d') :
    Cal.num y m d < Cal.num y' m' d' ↔ y < y' ∨ (y = y' ∧ (m < m' ∨ (m = m' ∧ d < d'))) := by
  have fwd : ∀ y m d y' m' d' : Int, 1600 ≤ y → y ≤ 9999 → 1600 ≤ y' → y' ≤ 9999 → Cal.Valid y m d → Cal.Valid y' m' d' → (y < y' ∨ (y = y' ∧ (m < m' ∨ (m = m' ∧ d < d')))) → Cal.num y m d < Cal.num y' m' d' := by
    intro y m d y' m' d' h1 h2 h1' h2' hv hv' h
    have a := Cal.num_year y m d h1 h2 hv
    have b := Cal.num_year y' m' d' h1' h2' hv'
    rcases h with h | ⟨rfl, h⟩
    · have := Cal.jan_mono (y + 1) y' (by omega) (by omega); omega
    · obtain ⟨p1, p2, p3, p4⟩ := hv
      obtain ⟨q1, q2, q3, q4⟩ := hv'
      have s := Cal.cum_succ y m p1 p2
      unfold Cal.num
      rcases h with h | ⟨rfl, h⟩
      · have := Cal.cum_mono y (m + 1) m' (by omega) (by omega) (by omega); omega
      · omega
  refine ⟨fun h => ?_, fwd y m d y' m' d' h1 h2 h1' h2' hv hv'⟩
  by_cases c : y < y' ∨ (y = y' ∧ (m < m' ∨ (m = m' ∧ d < d')))
  · exact c
  · by_cases e : y = y' ∧ m = m' ∧ d = d'
    · obtain ⟨rfl, rfl, rfl⟩ := e; omega
    · have := fwd y' m' d' y m d h1' h2' h1 h2 hv' hv (by omega)
      omega
theorem Cal.IsDate.inj {n y m d y' m' d' : Int} (h : Cal.IsDate n y m d) (h' : Cal.IsDate n y' m' d') : y = y' ∧ m = m' ∧ d = d' := by
  obtain ⟨a, b, c, e⟩ := h
  obtain ⟨a', b', c', e'⟩ := h'
  exact Cal.num_inj y m d y' m' d' a (by omega) a' (by omega) c c' (by omega)
theorem Cal.date_of_num {y m d : Int} (h1 : 1600 ≤ y) (h2 : y ≤ 9999) (hv : Cal.Valid y m d) (h : Cal.num y m d ≤ 1000000) : Cal.IsDate (Cal.num y m d) y m d := by
  refine ⟨h1, ?_, hv, rfl⟩
  have a := Cal.num_year y m d h1 h2 hv
  by_cases c : y ≤ 4337
  · exact c
  · have := Cal.jan_mono 4338 y (by omega) (by omega)
    have := Cal.jan_max
    omega
theorem Cal.IsDate.ge {n y m d : Int} (h : Cal.IsDate n y m d) : 0 ≤ n := by
  obtain ⟨a, b, c, e⟩ := h
  have := (Cal.num_year y m d a (by omega) c).1
  have := (Cal.jan_bd y a (by omega)).1
  omega
/-- 400 years later. -/
theorem Cal.leap_400 (y : Int) (h1 : 1600 ≤ y) (h2 : y ≤ 9599) : Cal.leapB (y + 400) = Cal.leapB y := by
  rw [Cal.leap_in _ (by omega) (by omega), Cal.leap_in _ h1 (by omega)]
  unfold Cal.lpB
  rw [Bool.eq_iff_iff]
  simp only [decide_eq_true_eq]
  omega
theorem Cal.len_400 (y m : Int) (h1 : 1600 ≤ y) (h2 : y ≤ 9599) : Cal.len (y + 400) m = Cal.len y m := by
  unfold Cal.len; rw [Cal.leap_400 y h1 h2]
theorem Cal.num_400 (y m d : Int) (h1 : 1600 ≤ y) (h2 : y ≤ 9599) : Cal.num (y + 400) m d = Cal.num y m d + 146097 := by
  unfold Cal.num Cal.cum
  rw [Cal.leap_400 y h1 h2]
  have : Cal.jan (y + 400) = Cal.jan y + 146097 := by unfold Cal.jan; omega
  omega
/-- The next day's date. -/
theorem Cal.next_date {n y m d y' m' d' : Int} (h : Cal.IsDate n y m d) (h' : Cal.IsDate (n + 1) y' m' d') :
    (y' = y ∧ m' = m ∧ d' = d + 1) ∨ (y' = y ∧ m' = m + 1 ∧ d' = 1) ∨ (y' = y + 1 ∧ m' = 1 ∧ m = 12 ∧ d' = 1) := by
  obtain ⟨a, b, ⟨v1, v2, v3, v4⟩, e⟩ := h
  have s := Cal.cum_succ y m v1 v2
  by_cases c : d + 1 ≤ Cal.len y m
  · have := Cal.IsDate.inj h' (y' := y) (m' := m) (d' := d + 1) ⟨a, b, ⟨v1, v2, by omega, c⟩, by unfold Cal.num at *; omega⟩
    omega
  · by_cases c2 : m < 12
    · have l := Cal.len_bd y (m + 1)
      have := Cal.IsDate.inj h' (y' := y) (m' := m + 1) (d' := 1) ⟨a, b, ⟨by omega, by omega, by omega, by omega⟩, by unfold Cal.num at *; omega⟩
      omega
    · obtain rfl : m = 12 := by omega
      have l := Cal.len_bd (y + 1) 1
      have yl := Cal.year_len y a (by omega)
      have hy : y + 1 ≤ 9999 := by omega
      have hnum : Cal.num (y + 1) 1 1 = n + 1 := by
        have := Cal.cum_one (y + 1)
        have e13 : (12 : Int) + 1 = 13 := rfl
        rw [e13] at s
        unfold Cal.num at *; omega
      obtain ⟨a', b', c', e'⟩ := h'
      have := Cal.num_inj y' m' d' (y + 1) 1 1 a' (by omega) (by omega) hy c' ⟨by omega, by omega, by omega, by omega⟩ (by omega)
      omega
end Go.Proofs.YthikonibmpngmaaDoor
