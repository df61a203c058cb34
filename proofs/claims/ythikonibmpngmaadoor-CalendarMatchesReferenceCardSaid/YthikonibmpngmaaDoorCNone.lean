/-
  What the laws on terms share: none, Light, the term's own memory, and what a term without an error says.
-/
import Derived.Test.YthikonibmpngmaaDoorCHead
import Derived.Lib.SmallJoins
namespace Go.Proofs.YthikonibmpngmaaDoor
open Go.RowKit

set_option maxHeartbeats 1000000 in
set_option maxRecDepth 100000 in
theorem none_walk (a b : Int) (v : Value) (l : List Int) (w : World) (hv : IsNums w v l) (ha : -1 ≤ a) (hab : a ≤ b) (hb : b ≤ 1000001) (hno : ∀ x, a ≤ x → x < b → Cal.opn l x = false) :
    Calls Tryd.prog 29 #[.int .i64 a, .int .i64 b, v] w fun e w' => e = .returned (.bool true) ∧ w = w' := by
  have HV := Lib.hid hv
  have HN := Lib.hid hno
  clear hv hno
  go_enter Tryd.func29, Tryd.ntmps29
  go_wp2
  go_loop [7] (fun i => ∃ k : Int, a ≤ k ∧ k ≤ b ∧ i = .int .i64 k) (fun i => (b - intOf i).toNat)
  case atStart => exact ⟨a, Int.le_refl _, hab, rfl⟩
  case round =>
    obtain ⟨k, hk1, hk2, rfl⟩ := hrel
    by_cases hlt : k < b
    · have HC := Lib.hid (work_is (HN.out k hk1 hlt) w HV.out)
      go_wp2_with fail
      refine HC.out.mono ?_
      rintro e w' ⟨rfl, rfl⟩
      go_wp2_with fail
      go_round
      case rel => exact ⟨k + 1, by omega, by omega, rfl⟩
      case measure => simp [intOf]; omega
    · obtain rfl : k = b := by omega
      go_wp2_with fail
      go_ret
      exact ⟨rfl, rfl⟩

def Cal.light (n u : Int) (k : Nat) : Bool := (decide (u ≠ 5) || decide (n ≤ 3000)) && decide (k ≤ 60)
theorem Cal.light_yes {n u : Int} {k : Nat} (h : (u ≠ 5 ∨ n ≤ 3000) ∧ k ≤ 60) : Cal.light n u k = true := by
  simp only [Cal.light, Bool.and_eq_true, Bool.or_eq_true, decide_eq_true_eq]; exact h
theorem Cal.light_no {n u : Int} {k : Nat} (h : ¬ ((u ≠ 5 ∨ n ≤ 3000) ∧ k ≤ 60)) : Cal.light n u k = false := by
  rw [← Bool.not_eq_true]; simp only [Cal.light, Bool.and_eq_true, Bool.or_eq_true, decide_eq_true_eq]; exact h
set_option maxHeartbeats 1000000 in
set_option maxRecDepth 100000 in
theorem light_walk (n u : Int) (v : Value) (l : List Int) (w : World) (hv : IsNums w v l) :
    Calls Tryd.prog 12 #[.agg #[.int .i64 n, .int .i64 u], v, .int .i64 60] w fun e w' => e = .returned (.bool (Cal.light n u l.length)) ∧ Below w.heap.size w w' := by
  obtain ⟨a, cap, rfl, h1, h2, _, _⟩ := hv
  obtain ⟨k, hk⟩ : ∃ k, k = l.length := ⟨_, rfl⟩
  rw [← hk] at h1 ⊢
  clear hk
  have HB := Lib.hid ((Below.refl w.heap.size w).alloc (Nat.le_refl _) (.cells #[.int .i64 n, .int .i64 u] 23))
  by_cases c1 : u = 5
  · subst c1
    by_cases c2 : n ≤ 3000
    · by_cases c3 : k ≤ 60
      · rw [Cal.light_yes ⟨.inr c2, c3⟩]
        have hd : decide ((k : Int) ≤ 60) = true := by simp; omega
        go_enter Tryd.func12, Tryd.ntmps12
        go_wp2
        go_ret
        exact ⟨rfl, HB.out⟩
      · rw [Cal.light_no (by omega)]
        have hd : decide ((k : Int) ≤ 60) = false := by simp; omega
        go_enter Tryd.func12, Tryd.ntmps12
        go_wp2
        go_ret
        exact ⟨rfl, HB.out⟩
    · rw [Cal.light_no (by omega)]
      have hd : decide (n ≤ 3000) = false := by simp; omega
      go_enter Tryd.func12, Tryd.ntmps12
      go_wp2
      go_ret
      exact ⟨rfl, HB.out⟩
  · have hq : (u != 5) = true := by simpa using c1
    by_cases c3 : k ≤ 60
    · rw [Cal.light_yes ⟨.inl c1, c3⟩]
      have hd : decide ((k : Int) ≤ 60) = true := by simp; omega
      clear c1
      go_enter Tryd.func12, Tryd.ntmps12
      go_wp2
      go_ret
      exact ⟨rfl, HB.out⟩
    · rw [Cal.light_no (by omega)]
      have hd : decide ((k : Int) ≤ 60) = false := by simp; omega
      clear c1
      go_enter Tryd.func12, Tryd.ntmps12
      go_wp2
      go_ret
      exact ⟨rfl, HB.out⟩

/-- A term in memory of its own. -/
def HasTerm (w : World) (b : Nat) (n u : Int) : Prop := w.heap[b]? = some (.cells #[.int .i64 n, .int .i64 u] 23 (0, 0))
theorem HasTerm.new (w : World) (n u : Int) : HasTerm (w.alloc (.cells #[.int .i64 n, .int .i64 u] 23)) w.heap.size n u := heap_alloc_new _ _
theorem HasTerm.lt {w : World} {b : Nat} {n u : Int} (h : HasTerm w b n u) : b < w.heap.size := lt_of_block h
theorem HasTerm.below {w w' : World} {b : Nat} {n u : Int} (h : HasTerm w b n u) (hb : Below w.heap.size w w') : HasTerm w' b n u := (Below.block hb _ h.lt).trans h
theorem HasTerm.c0 {w : World} {b : Nat} {n u : Int} (h : HasTerm w b n u) : w.cell? ⟨b, 0, none⟩ = some (.int .i64 n) := by have := Joins.cell_of_block h 0; simpa using this
theorem HasTerm.c1 {w : World} {b : Nat} {n u : Int} (h : HasTerm w b n u) : w.cell? ⟨b, 1, none⟩ = some (.int .i64 u) := by have := Joins.cell_of_block h 1; simpa using this

theorem Cal.Next.err {p : Int → Bool} {a v e : Int} (h : Cal.Next p a v e) (he : e ≠ 0) : v = 0 := by
  rcases h with ⟨h, _⟩ | ⟨_, h, _⟩
  · exact absurd h he
  · exact h
theorem Cal.AddR.err {cl : List Int} {day n u v e : Int} (h : Cal.AddR cl day n u v e) (he : e ≠ 0) : v = 0 := by
  rcases h with ⟨_, h, _⟩ | ⟨_, _, h, _⟩ | ⟨_, _, a, b, _, h4⟩
  · exact h
  · exact h
  · rcases h4 with ⟨_, h4⟩ | ⟨_, h4, _⟩
    · exact h4.err he
    · exact h4
/-- A term without an error: its first step, and the end. -/
theorem Cal.AddR.ok {cl : List Int} {day n u v : Int} (h : Cal.AddR cl day n u v 0) : Cal.IsTerm day n u ∧ cl.length ≤ 1000 ∧ ∃ a, Cal.Step cl day u n a 0 ∧ day ≤ a ∧ a ≤ v ∧ v ≤ 1000000 ∧ Cal.opn cl v = true ∧ ∀ x, a ≤ x → x < v → Cal.opn cl x = false := by
  rcases h with ⟨_, _, h⟩ | ⟨_, _, _, h⟩ | ⟨h1, h2, a, b, h3, h4⟩
  · omega
  · omega
  · rcases h4 with ⟨rfl, h4⟩ | ⟨h4, _, h5⟩
    · rcases h4 with ⟨_, g2, g3, g4, g5⟩ | ⟨g, _⟩
      · exact ⟨h1, h2, a, h3, h3.ge h1.2.2.2.2.1 rfl, g2, g3, g4, g5⟩
      · omega
    · omega
/-- Working days: the first step is an open day, and so the end. -/
theorem Cal.work_end {cl : List Int} {day n v a : Int} (hn : 1 ≤ n) (h : Cal.Step cl day 5 n a 0) (hav : a ≤ v) (hno : ∀ x, a ≤ x → x < v → Cal.opn cl x = false) : day < v ∧ Cal.cnt (Cal.opn cl) day (v - day).toNat = n := by
  simp only [Cal.Step, Cal.WorkL] at h
  rw [if_neg (by decide), if_neg (by decide), if_neg (by decide), if_neg (by decide), if_neg (by omega)] at h
  rcases h with ⟨_, h2, h3, h4, h5⟩ | ⟨h, _⟩
  · rw [decide_eq_true_eq] at h4
    have ho : Cal.opn cl a = true := by
      have hs := Cal.cnt_step (Cal.opn cl) day a h2
      by_cases c : Cal.opn cl a = true
      · exact c
      · rw [if_neg c, h4] at hs
        by_cases e : a = day + 1
        · rw [e, show (day + 1 - 1 - day).toNat = 0 by omega] at hs
          simp [Cal.cnt] at hs; omega
        · have := h5 (a - 1) (by omega) (by omega)
          rw [decide_eq_false_iff_not] at this
          exact absurd (by rw [show a - 1 - day = a - 1 - day from rfl]; omega) this
    have : a = v := by
      by_cases e : a < v
      · rw [hno a (Int.le_refl _) e] at ho; cases ho
      · omega
    subst this
    exact ⟨by omega, h4⟩
  · omega
end Go.Proofs.YthikonibmpngmaaDoor
