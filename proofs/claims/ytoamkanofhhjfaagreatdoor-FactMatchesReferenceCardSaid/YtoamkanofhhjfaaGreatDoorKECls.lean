import Derived.Test.YtoamkanofhhjfaaGreatDoorProg
import Derived.Test.YtoamkanofhhjfaaGreatDoorKELexEnd
import Derived.WalkKit
import Derived.WalkSpells
import Derived.WalkLawsBesides
import Derived.WalkSmall
import Derived.Lib.Hide
import Derived.Deep.Light
/-
  The walks of lexer.classOf: what a byte can be.
-/
namespace Go.Proofs.YtoamkanofhhjfaaGreatDoor
open Go.RowKit

namespace Lx
/-- The classes of a byte. -/
def cls (n : Nat) : Nat :=
  if (65 ≤ n ∧ n ≤ 90) ∨ (97 ≤ n ∧ n ≤ 122) then 4 else if 48 ≤ n ∧ n ≤ 57 then 8 else if n = 32 ∨ n = 9 ∨ n = 10 then 1
  else if n = 35 then 2 else if n = 95 then 16 else if n = 33 then 64 else if n = 60 ∨ n = 62 then 96
  else if n = 61 ∨ n = 59 ∨ n = 44 ∨ n = 46 ∨ n = 58 ∨ n = 40 ∨ n = 41 ∨ n = 91 ∨ n = 93 ∨ n = 123 ∨ n = 125 then 32 else 0
theorem ret_bool {a b : Bool} (h : a = b) : Ending.returned (.bool a) = .returned (.bool b) := by rw [h]
theorem ret_u8 {a b : Nat} (h : b = a) : Ending.returned (.int .u8 (a : Nat)) = .returned (.int .u8 (b : Nat)) := by rw [h]
end Lx

set_option maxHeartbeats 4000000 in
set_option maxRecDepth 100000 in
theorem classof_walk (n : Nat) (hn : n < 256) (w : World) :
    Calls Tryz.prog 92 #[.int .u8 n] w fun e w' => e = .returned (.int .u8 (Lx.cls n : Nat)) ∧ w = w' := by
  go_enter Tryz.func92, Tryz.ntmps92
  go_wp2
  all_goals
    go_ret
    refine ⟨?_, rfl⟩
    go_light
    try simp only [beq_iff_eq, beq_eq_false_iff_ne, ne_eq] at *
    first
      | (refine Lx.ret_u8 (a := 0) ?_; unfold Lx.cls; (repeat' split) <;> omega)
      | (refine Lx.ret_u8 (a := 1) ?_; unfold Lx.cls; (repeat' split) <;> omega)
      | (refine Lx.ret_u8 (a := 2) ?_; unfold Lx.cls; (repeat' split) <;> omega)
      | (refine Lx.ret_u8 (a := 4) ?_; unfold Lx.cls; (repeat' split) <;> omega)
      | (refine Lx.ret_u8 (a := 8) ?_; unfold Lx.cls; (repeat' split) <;> omega)
      | (refine Lx.ret_u8 (a := 16) ?_; unfold Lx.cls; (repeat' split) <;> omega)
      | (refine Lx.ret_u8 (a := 32) ?_; unfold Lx.cls; (repeat' split) <;> omega)
      | (refine Lx.ret_u8 (a := 64) ?_; unfold Lx.cls; (repeat' split) <;> omega)
      | (refine Lx.ret_u8 (a := 96) ?_; unfold Lx.cls; (repeat' split) <;> omega)

theorem Lx.letter_iff (b : UInt8) : Lx.isLetter b = true ↔ (97 ≤ b.toNat ∧ b.toNat ≤ 122) ∨ (65 ≤ b.toNat ∧ b.toNat ≤ 90) := by
  unfold Lx.isLetter; simp
theorem Lx.digit_iff (b : UInt8) : Lx.isDigit b = true ↔ 48 ≤ b.toNat ∧ b.toNat ≤ 57 := by
  unfold Lx.isDigit; simp
theorem Lx.byte_eq (b : UInt8) (k : Nat) (hk : k < 256) : b = UInt8.ofNat k ↔ b.toNat = k := by
  constructor
  · rintro rfl; rw [UInt8.toNat_ofNat']; omega
  · intro h; rw [← h, UInt8.ofNat_toNat]
theorem Lx.word_iff (b : UInt8) : Lx.isWord b = true ↔ (Lx.isLetter b = true ∨ Lx.isDigit b = true) ∨ b.toNat = 95 := by
  unfold Lx.isWord
  simp only [Bool.or_eq_true, beq_iff_eq]
  rw [show (95 : UInt8) = UInt8.ofNat 95 from rfl, Lx.byte_eq b 95 (by decide)]

end Go.Proofs.YtoamkanofhhjfaaGreatDoor
