/-
  Lists of numbers in memory; slices.Contains; a set of numbers as a map that the call has made.
-/
import Derived.Test.YthikonibmpngmaaDoorCDate
import Derived.Test.YthikonibmpngmaaDoorCMore
import Derived.Maps.OwnSet
import Derived.Laws.EntriesVeiled
namespace Go.Proofs.YthikonibmpngmaaDoor
open Go.RowKit

/-- A slice of numbers, in a world. -/
def IsNums (w : World) (v : Value) (l : List Int) : Prop :=
  ∃ (a : Option Addr) (cap : Nat), v = .slice a l.length cap ∧ l.length ≤ cap ∧ cap ≤ 9223372036854775807 ∧ (∀ x ∈ l, -9223372036854775808 ≤ x ∧ x ≤ 9223372036854775807) ∧
    (l ≠ [] → ∃ b off, a = some ⟨b, off, none⟩ ∧ b < w.heap.size ∧ ∀ i, i < l.length → w.cell? ⟨b, off + i, none⟩ = some (.int .i64 (l.getD i 0)))
theorem IsNums.nil (w : World) : IsNums w (.slice none 0 0) [] := ⟨none, 0, rfl, Nat.le_refl _, by decide, by simp, by simp⟩
theorem IsNums.below {w w' : World} {v : Value} {l : List Int} (h : IsNums w v l) (hb : Below w.heap.size w w') : IsNums w' v l := by
  obtain ⟨a, cap, rfl, h1, h2, h3, h4⟩ := h
  refine ⟨a, cap, rfl, h1, h2, h3, fun hne => ?_⟩
  obtain ⟨b, off, rfl, hlt, hc⟩ := h4 hne
  exact ⟨b, off, rfl, Nat.lt_of_lt_of_le hlt hb.size, fun i hi => (hb.cell (p := ⟨b, off + i, none⟩) hlt).trans (hc i hi)⟩
theorem IsNums.from {w w' : World} {v : Value} {l : List Int} {n : Nat} (h : IsNums w v l) (hb : Below n w w') (hn : w.heap.size ≤ n) : IsNums w' v l := h.below (hb.mono hn)

theorem contains_at {l : List Int} {k : Nat} (hk : k < l.length) (x : Int) (h : x = l.getD k 0) : l.contains x = true := by
  rw [List.contains_iff_mem, h, List.getD_eq_getElem?_getD, List.getElem?_eq_getElem hk]
  exact List.getElem_mem hk
theorem not_contains {l : List Int} {x : Int} (h : ∀ j, j < l.length → l.getD j 0 ≠ x) : l.contains x = false := by
  rw [← Bool.not_eq_true, List.contains_iff_mem]
  intro hm
  obtain ⟨j, hj, e⟩ := List.getElem_of_mem hm
  exact h j hj (by rw [List.getD_eq_getElem?_getD, List.getElem?_eq_getElem hj]; exact e)

/-- Where slices.Index ends. -/
def Cal.Found (l : List Int) (x : Int) (w : World) (e : Ending) (w' : World) : Prop := ∃ r : Int, e = .returned (.int .i64 r) ∧ ((0 ≤ r ∧ l.contains x = true) ∨ (r = -1 ∧ l.contains x = false)) ∧ w = w'

set_option maxHeartbeats 1000000 in
set_option maxRecDepth 100000 in
theorem index_walk (v : Value) (l : List Int) (x : Int) (w : World) (hv : IsNums w v l) : Calls Tryd.prog 52 #[v, .int .i64 x] w (Cal.Found l x w) := by
  obtain ⟨a, cap, rfl, h1, h2, h3, h4⟩ := hv
  have H4 := Lib.hid h4
  clear h4 h3
  obtain ⟨n, hn⟩ : ∃ n, n = l.length := ⟨_, rfl⟩
  rw [← hn] at h1 ⊢
  have HN := Lib.hid hn
  clear hn
  go_enter Tryd.func52, Tryd.ntmps52
  go_wp2
  go_loop [8] (fun i => ∃ k : Nat, k ≤ n ∧ i = .int .i64 k ∧ Hid (∀ j, j < k → l.getD j 0 ≠ x)) (fun i => n - (intOf i).toNat)
  case atStart => exact ⟨0, Nat.zero_le _, rfl, fun j hj => absurd hj (by omega)⟩
  case round =>
    obtain ⟨k, hk, rfl, hno⟩ := hrel
    by_cases hlt : k < n
    · obtain ⟨b, off, ha, hb, hc⟩ := H4.out (by intro e; have := HN.out; rw [e] at this; simp at this; omega)
      subst ha
      have c := hc k (by have := HN.out; omega)
      obtain ⟨z, hz⟩ : ∃ z, z = l.getD k 0 := ⟨_, rfl⟩
      rw [← hz] at c
      have HZ := Lib.hid hz
      clear hz hc
      by_cases he : x = z
      · subst he
        go_wp2
        go_ret
        exact ⟨k, rfl, .inl ⟨by omega, contains_at (by have := HN.out; omega) x HZ.out⟩, rfl⟩
      · have hf : (x == z) = false := by simpa using he
        have HE := Lib.hid he
        clear he
        go_wp2
        go_round
        case rel =>
          refine ⟨k + 1, by omega, by go_num, fun j hj => ?_⟩
          by_cases e : j = k
          · subst e; rw [← HZ.out]; exact fun h => HE.out h.symm
          · exact hno.out j (by omega)
        case measure => simp [intOf]; omega
    · obtain rfl : k = n := by omega
      go_wp2
      go_ret
      exact ⟨-1, rfl, .inr ⟨rfl, not_contains (by rw [← HN.out]; exact hno.out)⟩, rfl⟩

set_option maxHeartbeats 1000000 in
set_option maxRecDepth 100000 in
theorem contains_walk (v : Value) (l : List Int) (x : Int) (w : World) (hv : IsNums w v l) : Calls Tryd.prog 46 #[v, .int .i64 x] w fun e w' => e = .returned (.bool (l.contains x)) ∧ w = w' := by
  have HC := Lib.hid (index_walk v l x w hv)
  clear hv
  go_enter Tryd.func46, Tryd.ntmps46
  go_wp2_with fail
  refine HC.out.mono ?_
  rintro e w' ⟨r, rfl, h, rfl⟩
  rcases h with ⟨h, hc⟩ | ⟨rfl, hc⟩
  · have HX := Lib.hid hc
    clear hc
    go_wp2
    go_ret
    exact ⟨by rw [HX.out]; rfl, rfl⟩
  · have HX := Lib.hid hc
    clear hc
    go_wp2
    go_ret
    exact ⟨by rw [HX.out]; rfl, rfl⟩

theorem Cal.wk_yes {d : Int} (h : 0 ≤ d ∧ d ≤ 1000000) (h2 : (5 + d) % 7 ≤ 4) : Cal.wk d = true := by simp [Cal.wk, h, h2]
theorem Cal.wk_no {d : Int} (h : ¬ ((0 ≤ d ∧ d ≤ 1000000) ∧ (5 + d) % 7 ≤ 4)) : Cal.wk d = false := by simp only [Cal.wk, decide_eq_false_iff_not]; omega
theorem Cal.opn_of {l : List Int} {d : Int} : Cal.opn l d = (Cal.wk d && !l.contains d) := rfl

set_option maxHeartbeats 1000000 in
set_option maxRecDepth 100000 in
theorem wkopen_walk (d : Int) (w : World) : Calls Tryd.prog 45 #[.int .i64 d] w fun e w' => e = .returned (.bool (Cal.wk d)) ∧ w = w' := by
  have HC := Lib.hid (weekday_walk d w)
  by_cases h : 0 ≤ d ∧ d ≤ 1000000
  · rw [Cal.wday, if_pos h] at HC
    obtain ⟨z, hz⟩ : ∃ z, z = (5 + d) % 7 := ⟨_, rfl⟩
    have hz0 : 0 ≤ z := by omega
    rw [← hz] at HC
    by_cases h2 : z ≤ 4
    · rw [Cal.wk_yes h (by omega)]
      clear hz
      go_enter Tryd.func45, Tryd.ntmps45
      go_wp2_with fail
      refine HC.out.mono ?_
      rintro e w' ⟨rfl, rfl⟩
      go_wp2
      go_ret
      exact ⟨rfl, rfl⟩
    · rw [Cal.wk_no (by omega)]
      have hd : decide (z ≤ 4) = false := by simpa using h2
      have HD := Lib.hid hd
      clear hz hd
      go_enter Tryd.func45, Tryd.ntmps45
      go_wp2_with fail
      refine HC.out.mono ?_
      rintro e w' ⟨rfl, rfl⟩
      go_wp2
      go_ret
      exact ⟨congrArg (fun b => Ending.returned (Value.bool b)) HD.out, rfl⟩
  · rw [Cal.wday, if_neg h] at HC
    rw [Cal.wk_no (by omega)]
    clear h
    go_enter Tryd.func45, Tryd.ntmps45
    go_wp2_with fail
    refine HC.out.mono ?_
    rintro e w' ⟨rfl, rfl⟩
    go_wp2
    go_ret
    exact ⟨rfl, rfl⟩

set_option maxHeartbeats 1000000 in
set_option maxRecDepth 100000 in
theorem work_walk (d : Int) (v : Value) (l : List Int) (w : World) (hv : IsNums w v l) : Calls Tryd.prog 25 #[.int .i64 d, v] w fun e w' => e = .returned (.bool (Cal.opn l d)) ∧ w = w' := by
  have HC := Lib.hid (wkopen_walk d w)
  have HD := Lib.hid (contains_walk v l d w hv)
  clear hv
  rw [Cal.opn_of]
  cases hk : Cal.wk d
  · rw [hk] at HC
    clear hk
    go_enter Tryd.func25, Tryd.ntmps25
    go_wp2_with fail
    refine HC.out.mono ?_
    rintro e w' ⟨rfl, rfl⟩
    go_wp2
    go_ret
    exact ⟨rfl, rfl⟩
  · rw [hk] at HC
    clear hk
    obtain ⟨c, hc⟩ : ∃ c, c = l.contains d := ⟨_, rfl⟩
    rw [← hc] at HD ⊢
    clear hc
    go_enter Tryd.func25, Tryd.ntmps25
    go_wp2_with fail
    refine HC.out.mono ?_
    rintro e w' ⟨rfl, rfl⟩
    go_wp2_with fail
    refine HD.out.mono ?_
    rintro e w' ⟨rfl, rfl⟩
    go_wp2
    go_ret
    exact ⟨by simp, rfl⟩
end Go.Proofs.YthikonibmpngmaaDoor
