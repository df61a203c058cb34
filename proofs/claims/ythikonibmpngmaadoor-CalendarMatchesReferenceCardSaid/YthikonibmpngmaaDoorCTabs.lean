/-
  What the walks of the calendar ask of the world: two tables; the decimal numeral; leap years, lengths of months, first days of years.
-/
import Derived.Test.YthikonibmpngmaaDoorShelf
import Derived.Test.YthikonibmpngmaaDoorCMath
import Derived.WalkKit
import Derived.WalkSpells
import Derived.WalkLawsBesides
import Derived.WalkSmall
import Derived.Lib.Hide
import Derived.Lib.LaidTab
import Derived.Deep.QuietTactic
import Derived.BigQuiet
namespace Go.Proofs.YthikonibmpngmaaDoor
open Go.RowKit Go.Lib

/-- A text as the machine holds it. -/
abbrev str (l : List UInt8) : ByteArray := ⟨l.toArray⟩
theorem str_toList (l : List UInt8) : (str l).data.toList = l := by simp
theorem str_size (l : List UInt8) : (str l).size = l.length := by simp [ByteArray.size]

def Cal.lens : List Int := [31, 28, 31, 30, 31, 30, 31, 31, 30, 31, 30, 31]
/-- The library's table of powers of ten, and the lengths of months. -/
structure HasTab (w : World) : Prop where
  pow : Lib.TabIs Tryd.prog w "internal/strconv.uint64pow10" .u64 Lib.pow10Tab
  len : Lib.TabIs Tryd.prog w "pandect/calendar.lengths" .i64 Cal.lens

theorem gTab : Tryd.prog.globalNamed "internal/strconv.uint64pow10" = some 1 := by kernel_rfl
theorem gLen : Tryd.prog.globalNamed "pandect/calendar.lengths" = some 0 := by kernel_rfl

theorem HasTab.below {w w' : World} (h : HasTab w) (hb : Below w.heap.size w w') : HasTab w' :=
  ⟨var?_below hb gTab (block_lt_of_cell (h.pow.cell gTab 0 (by decide))) h.pow, var?_below hb gLen (block_lt_of_cell (h.len.cell gLen 0 (by decide))) h.len⟩
theorem HasTab.from {w w' : World} {n : Nat} (h : HasTab w) (hb : Below n w w') (hn : w.heap.size ≤ n) : HasTab w' := h.below (hb.mono hn)

theorem below_grow (w : World) (k : Nat) (os : Array Obj) : Below w.heap.size w (Sort.grow (w.drewN k) os) :=
  ⟨rfl, rfl, rfl, by simp [Sort.grow, World.drewN], fun j hj => Sort.heap_grow_old (w.drewN k) os hj⟩

theorem itoa_walk (n : Nat) (hn : n ≤ 9223372036854775807) (w : World) (ht : HasTab w) :
    Calls Tryd.prog 42 #[.int .i64 n] w fun e w' => e = .returned (.string (str (Lib.decDigits n))) ∧ Below w.heap.size w w' := by
  refine (Tryd.strconv_Itoa n (by omega) (by omega) w ht.pow).mono ?_
  rintro e w' ⟨rfl, k, os, rfl⟩
  have e1 : Lib.itoa (n : Int) = Lib.decDigits n := by
    unfold Lib.itoa
    rw [if_neg (by omega), Int.toNat_natCast]
  exact ⟨by rw [e1], below_grow w k os⟩

theorem Cal.tab_at (m : Nat) (h : m < 12) : Cal.lens.getD m 0 = Cal.tab (m + 1) := by
  have : m = 0 ∨ m = 1 ∨ m = 2 ∨ m = 3 ∨ m = 4 ∨ m = 5 ∨ m = 6 ∨ m = 7 ∨ m = 8 ∨ m = 9 ∨ m = 10 ∨ m = 11 := by omega
  rcases this with rfl | rfl | rfl | rfl | rfl | rfl | rfl | rfl | rfl | rfl | rfl | rfl <;> decide

set_option maxHeartbeats 1000000 in
set_option maxRecDepth 100000 in
theorem isleap_walk (y : Int) (w : World) : Calls Tryd.prog 47 #[.int .i64 y] w fun e w' => e = .returned (.bool (Cal.leapB y)) ∧ w = w' := by
  by_cases h1 : y < 1600
  · have e : Cal.leapB y = true := by simp [Cal.leapB, h1]
    rw [e]
    go_enter Tryd.func47, Tryd.ntmps47
    go_wp2
    go_ret
    exact ⟨rfl, rfl⟩
  · by_cases h2 : 9999 < y
    · have e : Cal.leapB y = true := by simp [Cal.leapB, h2]
      rw [e]
      go_enter Tryd.func47, Tryd.ntmps47
      go_wp2
      go_ret
      exact ⟨rfl, rfl⟩
    · rw [Cal.leap_in y (by omega) (by omega)]
      unfold Cal.lpB
      go_enter Tryd.func47, Tryd.ntmps47
      go_wp2
      all_goals (go_ret; exact ⟨by congr 2 <;> simp_all, rfl⟩)

set_option maxHeartbeats 1000000 in
set_option maxRecDepth 100000 in
theorem length_walk (y m : Int) (h1 : 1 ≤ m) (h2 : m ≤ 12) (w : World) (ht : HasTab w) : Calls Tryd.prog 30 #[.int .i64 y, .int .i64 m] w fun e w' => e = .returned (.int .i64 (Cal.len y m)) ∧ w = w' := by
  by_cases hm : m = 2
  · subst hm
    cases hl : Cal.leapB y
    · have e : Cal.len y 2 = 28 := by simp [Cal.len, Cal.tab, hl]
      rw [e]
      have c := ht.len.cell gLen 1 (by decide)
      simp only [Cal.lens, List.getD_cons_succ, List.getD_cons_zero] at c
      have HL := Lib.hid hl
      clear hl ht
      go_enter Tryd.func30, Tryd.ntmps30
      go_wp2_with (go_at_call 47; refine (isleap_walk y _).mono ?_; rintro e w' ⟨rfl, rfl⟩; rw [HL.out])
      go_ret
      exact ⟨rfl, rfl⟩
    · have e : Cal.len y 2 = 29 := by simp [Cal.len, hl]
      rw [e]
      have HL := Lib.hid hl
      clear hl ht
      go_enter Tryd.func30, Tryd.ntmps30
      go_wp2_with (go_at_call 47; refine (isleap_walk y _).mono ?_; rintro e w' ⟨rfl, rfl⟩; rw [HL.out])
      go_ret
      exact ⟨rfl, rfl⟩
  · have e : Cal.len y m = Cal.tab m := by simp [Cal.len, hm]
    rw [e]
    obtain ⟨k, rfl⟩ : ∃ k : Nat, m = (k : Int) + 1 := ⟨(m - 1).toNat, by omega⟩
    have c := ht.len.cell gLen k (by simp [Cal.lens]; omega)
    rw [Cal.tab_at k (by omega)] at c
    have hm' : ((k : Int) + 1 == 2) = false := by simp; omega
    clear ht
    go_enter Tryd.func30, Tryd.ntmps30
    go_wp2
    go_ret
    exact ⟨rfl, rfl⟩

set_option maxHeartbeats 1000000 in
set_option maxRecDepth 100000 in
theorem january_walk (y : Int) (h1 : 1600 ≤ y) (h2 : y ≤ 10000) (w : World) : Calls Tryd.prog 31 #[.int .i64 y] w fun e w' => e = .returned (.int .i64 (Cal.jan y)) ∧ w = w' := by
  go_enter Tryd.func31, Tryd.ntmps31
  go_wp2
  go_ret
  exact ⟨rfl, rfl⟩

def Cal.isD (n : Int) : Bool := decide (0 ≤ n) && decide (n ≤ 1000000)
theorem Cal.isD_yes {n : Int} (h0 : 0 ≤ n) (h1 : n ≤ 1000000) : Cal.isD n = true := by simp [Cal.isD, h0, h1]
theorem Cal.isD_no {n : Int} (h : ¬ (0 ≤ n ∧ n ≤ 1000000)) : Cal.isD n = false := by simp [Cal.isD]; omega
set_option maxHeartbeats 1000000 in
set_option maxRecDepth 100000 in
theorem isday_walk (n : Int) (w : World) : Calls Tryd.prog 34 #[.int .i64 n] w fun e w' => e = .returned (.bool (Cal.isD n)) ∧ w = w' := by
  by_cases h0 : 0 ≤ n
  · by_cases h1 : n ≤ 1000000
    · rw [Cal.isD_yes h0 h1]
      go_enter Tryd.func34, Tryd.ntmps34
      go_wp2
      go_ret
      exact ⟨rfl, rfl⟩
    · rw [Cal.isD_no (by omega)]
      go_enter Tryd.func34, Tryd.ntmps34
      go_wp2
      go_ret
      exact ⟨rfl, rfl⟩
  · rw [Cal.isD_no (by omega)]
    go_enter Tryd.func34, Tryd.ntmps34
    go_wp2
    go_ret
    exact ⟨rfl, rfl⟩
end Go.Proofs.YthikonibmpngmaaDoor
