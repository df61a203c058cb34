import Derived.Test.YtoamkanofhhjfaaGreatDoorKECls
/-
  The walks of the reference's letter, digit and word.
-/
namespace Go.Proofs.YtoamkanofhhjfaaGreatDoor
open Go.RowKit

set_option maxHeartbeats 1000000 in
set_option maxRecDepth 100000 in
theorem refletter_walk (b : UInt8) (w : World) :
    Calls Tryz.prog 70 #[.int .u8 b.toNat] w fun e w' => e = .returned (.bool (Lx.isLetter b)) ∧ w = w' := by
  go_enter Tryz.func70, Tryz.ntmps70
  go_wp2
  all_goals
    go_ret
    exact ⟨Lx.ret_bool (by rw [Bool.eq_iff_iff, Lx.letter_iff]; simp; omega), rfl⟩
set_option maxHeartbeats 1000000 in
set_option maxRecDepth 100000 in
theorem refdigit_walk (b : UInt8) (w : World) :
    Calls Tryz.prog 79 #[.int .u8 b.toNat] w fun e w' => e = .returned (.bool (Lx.isDigit b)) ∧ w = w' := by
  go_enter Tryz.func79, Tryz.ntmps79
  go_wp2
  all_goals
    go_ret
    exact ⟨Lx.ret_bool (by rw [Bool.eq_iff_iff, Lx.digit_iff]; simp; omega), rfl⟩
set_option maxHeartbeats 1000000 in
set_option maxRecDepth 100000 in
theorem refword_walk (b : UInt8) (w : World) :
    Calls Tryz.prog 69 #[.int .u8 b.toNat] w fun e w' => e = .returned (.bool (Lx.isWord b)) ∧ w = w' := by
  have HL := Lib.hid (refletter_walk b w)
  have HD := Lib.hid (refdigit_walk b w)
  obtain ⟨l, hl⟩ : ∃ l, l = Lx.isLetter b := ⟨_, rfl⟩
  obtain ⟨d, hd⟩ : ∃ d, d = Lx.isDigit b := ⟨_, rfl⟩
  rw [← hl] at HL
  rw [← hd] at HD
  have HW := Lib.hid (Lx.word_iff b)
  rw [← hl, ← hd] at HW
  clear hl hd
  cases l <;> cases d
  all_goals
    go_enter Tryz.func69, Tryz.ntmps69
    go_wp2_with (first | (refine HL.out.mono ?_; rintro e w1 ⟨rfl, rfl⟩) | (refine HD.out.mono ?_; rintro e w1 ⟨rfl, rfl⟩))
  all_goals
    go_ret
    refine ⟨Lx.ret_bool ?_, rfl⟩
    rw [Bool.eq_iff_iff, HW.out]
    simp <;> omega
end Go.Proofs.YtoamkanofhhjfaaGreatDoor
