/-
  Open days and terms in arithmetic: the next day with a property, working days counted, months later, the end of a term.
-/
import Derived.Test.YthikonibmpngmaaDoorCMath
namespace Go.Proofs.YthikonibmpngmaaDoor

/-- Offices are open on a number as far as the day of the week says it. -/
def Cal.wk (d : Int) : Bool := decide (0 ≤ d ∧ d ≤ 1000000 ∧ (5 + d) % 7 ≤ 4)
def Cal.opn (cl : List Int) (d : Int) : Bool := Cal.wk d && !cl.contains d
theorem Cal.opn_bd {cl : List Int} {d : Int} (h : Cal.opn cl d = true) : 0 ≤ d ∧ d ≤ 1000000 := by
  unfold Cal.opn Cal.wk at h
  simp at h
  omega

/-- The first number from a on with a property, up to the last day. -/
def Cal.Next (p : Int → Bool) (a v err : Int) : Prop :=
  (err = 0 ∧ a ≤ v ∧ v ≤ 1000000 ∧ p v = true ∧ ∀ x, a ≤ x → x < v → p x = false) ∨ (err = 10 ∧ v = 0 ∧ ∀ x, a ≤ x → x ≤ 1000000 → p x = false)
theorem Cal.Next.uniq {p : Int → Bool} {a v e v' e' : Int} (h : Cal.Next p a v e) (h' : Cal.Next p a v' e') : v = v' ∧ e = e' := by
  rcases h with ⟨h1, h2, h3, h4, h5⟩ | ⟨h1, h2, h3⟩ <;> rcases h' with ⟨g1, g2, g3, g4, g5⟩ | ⟨g1, g2, g3⟩
  · rcases Int.lt_trichotomy v v' with q | q | q
    · rw [g5 v h2 q] at h4; cases h4
    · omega
    · rw [h5 v' g2 q] at g4; cases g4
  · rw [g3 v h2 h3] at h4; cases h4
  · rw [h3 v' g2 g3] at g4; cases g4
  · omega
theorem Cal.Next.congr {p q : Int → Bool} {a v e : Int} (h : Cal.Next p a v e) (hpq : ∀ x, a ≤ x → x ≤ 1000000 → p x = q x) : Cal.Next q a v e := by
  rcases h with ⟨h1, h2, h3, h4, h5⟩ | ⟨h1, h2, h3⟩
  · exact .inl ⟨h1, h2, h3, by rw [← hpq v h2 h3]; exact h4, fun x hx hy => by rw [← hpq x hx (by omega)]; exact h5 x hx hy⟩
  · exact .inr ⟨h1, h2, fun x hx hy => by rw [← hpq x hx hy]; exact h3 x hx hy⟩

/-- How many of the k numbers behind a have a property. -/
def Cal.cnt (p : Int → Bool) (a : Int) : Nat → Int
  | 0 => 0
  | k + 1 => Cal.cnt p a k + if p (a + (k : Int) + 1) = true then 1 else 0
theorem Cal.cnt_bd (p : Int → Bool) (a : Int) (k : Nat) : 0 ≤ Cal.cnt p a k ∧ Cal.cnt p a k ≤ k := by
  induction k with
  | zero => simp [Cal.cnt]
  | succ k ih => simp only [Cal.cnt]; split <;> omega
theorem Cal.cnt_mono (p : Int → Bool) (a : Int) (k l : Nat) : Cal.cnt p a k ≤ Cal.cnt p a (k + l) := by
  induction l with
  | zero => simp
  | succ l ih => rw [← Nat.add_assoc]; simp only [Cal.cnt]; split <;> omega
theorem Cal.cnt_lt (p : Int → Bool) (a k : Int) (hk : 1 ≤ k) (m : Nat) (h : ∀ j : Nat, 1 ≤ j → j ≤ m → Cal.cnt p a j ≠ k) : Cal.cnt p a m < k := by
  induction m with
  | zero => simp [Cal.cnt]; omega
  | succ m ih =>
    have h1 := ih fun j hj hm => h j hj (by omega)
    have h2 := h (m + 1) (by omega) (Nat.le_refl _)
    simp only [Cal.cnt] at h2 ⊢
    by_cases e : p (a + (m : Int) + 1) = true
    · rw [if_pos e] at h2 ⊢; omega
    · rw [if_neg e] at h2 ⊢; omega
theorem Cal.cnt_step (p : Int → Bool) (a d : Int) (h : a + 1 ≤ d) : Cal.cnt p a (d - a).toNat = Cal.cnt p a (d - 1 - a).toNat + if p d = true then 1 else 0 := by
  obtain ⟨m, rfl⟩ : ∃ m : Nat, d = a + m + 1 := ⟨(d - a - 1).toNat, by omega⟩
  rw [show (a + (m : Int) + 1 - a).toNat = m + 1 by omega, show (a + (m : Int) + 1 - 1 - a).toNat = m by omega]
  rfl
/-- The n-th such number behind a, or a itself. -/
def Cal.WorkL (p : Int → Bool) (a n v err : Int) : Prop :=
  if n = 0 then v = a ∧ err = 0 else Cal.Next (fun x => decide (Cal.cnt p a (x - a).toNat = n)) (a + 1) v err
/-- The same day of the month n months later, or the last one of a shorter month. -/
def Cal.later (y m d n : Int) : Int := Cal.num (y + (m - 1 + n) / 12) ((m - 1 + n) % 12 + 1) (min d (Cal.len (y + (m - 1 + n) / 12) ((m - 1 + n) % 12 + 1)))
def Cal.Mon (day n v err : Int) : Prop :=
  ∃ y m d, Cal.IsDate day y m d ∧ ((1000000 < Cal.later y m d n ∧ v = 0 ∧ err = 10) ∨ (Cal.later y m d n ≤ 1000000 ∧ v = Cal.later y m d n ∧ err = 0))
theorem Cal.Mon.uniq {day n v e v' e' : Int} (h : Cal.Mon day n v e) (h' : Cal.Mon day n v' e') : v = v' ∧ e = e' := by
  obtain ⟨y, m, d, h1, h2⟩ := h
  obtain ⟨y', m', d', h1', h2'⟩ := h'
  obtain ⟨rfl, rfl, rfl⟩ := Cal.IsDate.inj h1 h1'
  omega
/-- The first step of a term. -/
def Cal.Step (cl : List Int) (day unit n v err : Int) : Prop :=
  if unit = 1 then v = day + n ∧ err = 0 else if unit = 2 then v = day + 7 * n ∧ err = 0
  else if unit = 3 then Cal.Mon day n v err else if unit = 4 then Cal.Mon day (12 * n) v err else Cal.WorkL (Cal.opn cl) day n v err
theorem Cal.Step.uniq {cl : List Int} {day u n v e v' e' : Int} (h : Cal.Step cl day u n v e) (h' : Cal.Step cl day u n v' e') : v = v' ∧ e = e' := by
  unfold Cal.Step at h h'
  split at h
  · rw [if_pos (by assumption)] at h'; omega
  rw [if_neg (by assumption)] at h'
  split at h
  · rw [if_pos (by assumption)] at h'; omega
  rw [if_neg (by assumption)] at h'
  split at h
  · rw [if_pos (by assumption)] at h'; exact h.uniq h'
  rw [if_neg (by assumption)] at h'
  split at h
  · rw [if_pos (by assumption)] at h'; exact h.uniq h'
  rw [if_neg (by assumption)] at h'
  unfold Cal.WorkL at h h'
  split at h
  · rw [if_pos (by assumption)] at h'; omega
  rw [if_neg (by assumption)] at h'
  exact h.uniq h'
/-- A term that the document knows, from a day. -/
def Cal.IsTerm (day n unit : Int) : Prop := 0 ≤ day ∧ day ≤ 1000000 ∧ 1 ≤ unit ∧ unit ≤ 5 ∧ 0 ≤ n ∧ n ≤ 1000000
/-- The end of a term (D4). -/
def Cal.AddR (cl : List Int) (day n unit v err : Int) : Prop :=
  (¬ Cal.IsTerm day n unit ∧ v = 0 ∧ err = 1) ∨ (Cal.IsTerm day n unit ∧ 1000 < cl.length ∧ v = 0 ∧ err = 2) ∨
  (Cal.IsTerm day n unit ∧ cl.length ≤ 1000 ∧ ∃ a e, Cal.Step cl day unit n a e ∧ ((e = 0 ∧ Cal.Next (Cal.opn cl) a v err) ∨ (¬ e = 0 ∧ v = 0 ∧ err = e)))
theorem Cal.AddR.uniq {cl : List Int} {day u n v e v' e' : Int} (h : Cal.AddR cl day n u v e) (h' : Cal.AddR cl day n u v' e') : v = v' ∧ e = e' := by
  rcases h with ⟨h1, h2⟩ | ⟨h1, h2, h3⟩ | ⟨h1, h2, a, b, h3, h4⟩ <;> rcases h' with ⟨g1, g2⟩ | ⟨g1, g2, g3⟩ | ⟨g1, g2, a', b', g3, g4⟩
  · omega
  · exact absurd g1 h1
  · exact absurd g1 h1
  · exact absurd h1 g1
  · omega
  · omega
  · exact absurd h1 g1
  · omega
  · obtain ⟨rfl, rfl⟩ := h3.uniq g3
    rcases h4 with ⟨h4, h5⟩ | ⟨h4, h5⟩ <;> rcases g4 with ⟨g4, g5⟩ | ⟨g4, g5⟩
    · exact h5.uniq g5
    · exact absurd h4 g4
    · exact absurd g4 h4
    · omega
end Go.Proofs.YthikonibmpngmaaDoor
