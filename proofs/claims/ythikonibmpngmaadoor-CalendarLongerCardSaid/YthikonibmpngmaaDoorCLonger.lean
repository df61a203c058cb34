/-
  A longer term, one that begins later, and one with more closed days don't end earlier.
-/
import Derived.Test.YthikonibmpngmaaDoorCNone
namespace Go.Proofs.YthikonibmpngmaaDoor

theorem Cal.cnt_shift {p q : Int → Bool} (hpq : ∀ x, q x = true → p x = true) (a : Int) (s k : Nat) : Cal.cnt q (a + s) k ≤ Cal.cnt p a (s + k) := by
  induction k with
  | zero => exact (Cal.cnt_bd p a (s + 0)).1
  | succ k ih =>
    rw [← Nat.add_assoc]
    simp only [Cal.cnt]
    rw [show a + (s : Int) + (k : Int) + 1 = a + ((s + k : Nat) : Int) + 1 by omega]
    by_cases h : q (a + ((s + k : Nat) : Int) + 1) = true
    · rw [if_pos h, if_pos (hpq _ h)]; omega
    · rw [if_neg h]; split <;> omega
/-- Where a property holds up to the last day, the next one is found. -/
theorem Cal.Next.found {p : Int → Bool} {a v e x : Int} (h : Cal.Next p a v e) (h1 : a ≤ x) (h2 : x ≤ 1000000) (h3 : p x = true) : e = 0 ∧ v ≤ x := by
  rcases h with ⟨g1, g2, g3, g4, g5⟩ | ⟨_, _, g⟩
  · refine ⟨g1, ?_⟩
    rcases Int.lt_or_le x v with c | c
    · rw [g5 x h1 c] at h3; cases h3
    · exact c
  · rw [g x h1 h2] at h3; cases h3
theorem Cal.WorkL.mono {p q : Int → Bool} (hpq : ∀ x, q x = true → p x = true) {day day' n n' a a' e : Int} (hd : day ≤ day') (hn0 : 0 ≤ n) (hn : n ≤ n') (h : Cal.WorkL p day n a e) (h' : Cal.WorkL q day' n' a' 0) : e = 0 ∧ a ≤ a' := by
  unfold Cal.WorkL at h h'
  by_cases c : n = 0
  · rw [if_pos c] at h
    refine ⟨h.2, ?_⟩
    by_cases c' : n' = 0
    · rw [if_pos c'] at h'; omega
    · rw [if_neg c'] at h'
      rcases h' with ⟨_, g, _⟩ | ⟨g, _⟩ <;> omega
  · rw [if_neg c] at h
    rw [if_neg (by omega)] at h'
    rcases h' with ⟨_, g2, g3, g4, _⟩ | ⟨g, _⟩
    · rw [decide_eq_true_eq] at g4
      have hs := Cal.cnt_shift hpq day (day' - day).toNat (a' - day').toNat
      rw [show day + ((day' - day).toNat : Int) = day' by omega, g4, show (day' - day).toNat + (a' - day').toNat = (a' - day).toNat by omega] at hs
      have hx : ¬ ∀ j : Nat, 1 ≤ j → j ≤ (a' - day).toNat → Cal.cnt p day j ≠ n := by
        intro q
        have := Cal.cnt_lt p day n (by omega) _ q
        omega
      have ⟨j, hj1, hj2, hj3⟩ : ∃ j : Nat, 1 ≤ j ∧ j ≤ (a' - day).toNat ∧ Cal.cnt p day j = n := by
        apply Classical.byContradiction
        intro q
        exact hx fun j h1 h2 h3 => q ⟨j, h1, h2, h3⟩
      have := h.found (x := day + j) (by omega) (by omega) (by rw [decide_eq_true_eq, show (day + (j : Int) - day).toNat = j by omega]; exact hj3)
      omega
    · omega
theorem Cal.Mon.mono {day day' n n' a a' e : Int} (hd : day ≤ day') (hn0 : 0 ≤ n) (hn : n ≤ n') (h : Cal.Mon day n a e) (h' : Cal.Mon day' n' a' 0) : e = 0 ∧ a ≤ a' := by
  obtain ⟨y, m, d, h1, h2⟩ := h
  obtain ⟨y', m', d', g1, g2⟩ := h'
  rcases g2 with ⟨_, _, g⟩ | ⟨g2, g3, _⟩
  · omega
  · have := Cal.later_le h1 g1 hd hn0 hn g2
    rcases h2 with ⟨h2, _⟩ | ⟨h2, h3, h4⟩
    · omega
    · omega
theorem Cal.Step.mono {cl cl' : List Int} (hpq : ∀ x, Cal.opn cl' x = true → Cal.opn cl x = true) {day day' u n n' a a' e : Int} (hd : day ≤ day') (hn0 : 0 ≤ n) (hn : n ≤ n') (h : Cal.Step cl day u n a e) (h' : Cal.Step cl' day' u n' a' 0) : e = 0 ∧ a ≤ a' := by
  unfold Cal.Step at h h'
  by_cases c1 : u = 1
  · rw [if_pos c1] at h h'; omega
  rw [if_neg c1] at h h'
  by_cases c2 : u = 2
  · rw [if_pos c2] at h h'; omega
  rw [if_neg c2] at h h'
  by_cases c3 : u = 3
  · rw [if_pos c3] at h h'; exact h.mono hd hn0 hn h'
  rw [if_neg c3] at h h'
  by_cases c4 : u = 4
  · rw [if_pos c4] at h h'; exact h.mono hd (by omega) (by omega) h'
  rw [if_neg c4] at h h'
  exact h.mono hpq hd hn0 hn h'
theorem Cal.AddR.mono {cl cl' : List Int} (hpq : ∀ x, Cal.opn cl' x = true → Cal.opn cl x = true) (hl : cl.length ≤ 1000) {day day' u n n' v v' e e' : Int} (h0 : 0 ≤ day) (hd : day ≤ day') (hn0 : 0 ≤ n) (hn : n ≤ n') (h : Cal.AddR cl day n u v e) (h' : Cal.AddR cl' day' n' u v' e') (he : e' = 0) : e = 0 ∧ v ≤ v' := by
  subst he
  obtain ⟨⟨i1, i2, i3, i4, i5, i6⟩, _, a', g1, g2, g3, g4, g5, _⟩ := h'.ok
  rcases h with ⟨h, _⟩ | ⟨_, h, _⟩ | ⟨_, _, a, b, h3, h4⟩
  · exact absurd ⟨h0, by omega, i3, i4, hn0, by omega⟩ h
  · omega
  · obtain ⟨rfl, hab⟩ := h3.mono hpq hd hn0 hn g1
    rcases h4 with ⟨_, h4⟩ | ⟨h4, _⟩
    · exact h4.found (by omega) g4 (hpq _ g5)
    · exact absurd rfl h4
theorem Cal.opn_snoc {l : List Int} {x y : Int} (h : Cal.opn (l ++ [x]) y = true) : Cal.opn l y = true := by
  unfold Cal.opn at h ⊢
  simp only [Bool.and_eq_true, Bool.not_eq_true', List.contains_eq_mem, decide_eq_false_iff_not, List.mem_append] at h ⊢
  exact ⟨h.1, fun q => h.2 (.inl q)⟩
/-- What the law asks of the four answers. -/
theorem Cal.longer {l : List Int} {day n u x q er a f b g c h : Int} {k j : Nat} (hl : l.length ≤ 60) (h0 : 0 ≤ day) (hn0 : 0 ≤ n) (r : Cal.AddR l day n u q er) (ra : Cal.AddR l day (n + k) u a f) (rb : Cal.AddR l (day + j) n u b g) (rc : Cal.AddR (l ++ [x]) day n u c h) :
    (f = 0 → er = 0 ∧ q ≤ a) ∧ (g = 0 → er = 0 ∧ q ≤ b) ∧ (h = 0 → er = 0 ∧ q ≤ c) :=
  ⟨fun e => r.mono (fun _ h => h) (by omega) h0 (Int.le_refl _) hn0 (by omega) ra e,
   fun e => r.mono (fun _ h => h) (by omega) h0 (by omega) hn0 (Int.le_refl _) rb e,
   fun e => r.mono (fun _ h => Cal.opn_snoc h) (by omega) h0 (Int.le_refl _) hn0 (Int.le_refl _) rc e⟩
end Go.Proofs.YthikonibmpngmaaDoor
