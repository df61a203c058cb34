/-
  The walks of fact.isLetter, isBounded and isValue.
-/
import Derived.Test.YtjcaingfeaaakaaProg
import Derived.Test.YtjcaingfeaaakaaFMem
import Derived.WalkKit
import Derived.WalkSpells
import Derived.WalkLawsBesides
import Derived.WalkSmall
import Derived.Lib.Hide
import Derived.Deep.Light
namespace Go.Proofs.Ytjcaingfeaaakaa
open Go.RowKit

set_option maxHeartbeats 1000000 in
set_option maxRecDepth 100000 in
theorem isletter_walk (b : UInt8) (w : World) :
    Calls Try.prog 62 #[.int .u8 b.toNat] w fun e w' => e = .returned (.bool (Lx.isLetter b)) ∧ w = w' := by
  go_enter Try.func62, Try.ntmps62
  go_wp2
  all_goals
    go_ret
    exact ⟨Lx.ret_bool (by rw [Bool.eq_iff_iff, Lx.letter_iff]; simp; omega), rfl⟩

/-- A bool that says something, over a world of which nothing old has turned. -/
def Fc.Says (P : Prop) (w : World) (e : Ending) (w' : World) : Prop := (∃ b : Bool, e = .returned (.bool b) ∧ (b = true ↔ P)) ∧ Below w.heap.size w w'
/-- The value of a fact. -/
abbrev Fc.vF (f : Fc.Fact) : Value := .agg #[.string (Lx.str f.name), .int .i64 f.kind, .int .i64 f.lo, .int .i64 f.hi]

set_option maxHeartbeats 2000000 in
set_option maxRecDepth 100000 in
theorem isbounded_walk (s : ByteArray) (k lo hi : Int) (w : World) :
    Calls Try.prog 47 #[.agg #[.string s, .int .i64 k, .int .i64 lo, .int .i64 hi]] w (Fc.Says ((k = 1 ∧ lo = 0 ∧ hi = 1) ∨ ((k = 2 ∨ k = 3) ∧ 0 ≤ lo ∧ lo ≤ hi ∧ hi ≤ 1000000)) w) := by
  have HB := Lib.hid ((Below.refl w.heap.size w).alloc (Nat.le_refl _) (.cells #[.string s, .int .i64 k, .int .i64 lo, .int .i64 hi] 52))
  obtain ⟨P, hP⟩ : ∃ P : Prop, P = ((k = 1 ∧ lo = 0 ∧ hi = 1) ∨ ((k = 2 ∨ k = 3) ∧ 0 ≤ lo ∧ lo ≤ hi ∧ hi ≤ 1000000)) := ⟨_, rfl⟩
  rw [← hP]
  have HP := Lib.hid hP
  clear hP
  have hk : k = 1 ∨ k = 2 ∨ k = 3 ∨ (k ≠ 1 ∧ k ≠ 2 ∧ k ≠ 3) := by omega
  rcases hk with rfl | rfl | rfl | ⟨k1, k2, k3⟩
  all_goals
    go_enter Try.func47, Try.ntmps47
    go_wp2
  all_goals
    go_ret
    have HP2 := HP.out
    clear HP
    try subst_vars
    refine ⟨⟨_, rfl, ?_⟩, HB.out⟩
    clear HB
    simp
    try omega

set_option maxHeartbeats 2000000 in
set_option maxRecDepth 100000 in
theorem isvalue_walk (n : Int) (s : ByteArray) (k lo hi : Int) (w : World) :
    Calls Try.prog 54 #[.int .i64 n, .agg #[.string s, .int .i64 k, .int .i64 lo, .int .i64 hi]] w (Fc.Says (lo ≤ n ∧ n ≤ hi) w) := by
  have HB := Lib.hid ((Below.refl w.heap.size w).alloc (Nat.le_refl _) (.cells #[.string s, .int .i64 k, .int .i64 lo, .int .i64 hi] 52))
  obtain ⟨P, hP⟩ : ∃ P : Prop, P = (lo ≤ n ∧ n ≤ hi) := ⟨_, rfl⟩
  rw [← hP]
  have HP := Lib.hid hP
  clear hP
  go_enter Try.func54, Try.ntmps54
  go_wp2
  all_goals
    go_ret
    have HP2 := HP.out
    clear HP
    refine ⟨⟨_, rfl, ?_⟩, HB.out⟩
    rw [HP2]
    simp
    try omega
end Go.Proofs.Ytjcaingfeaaakaa
