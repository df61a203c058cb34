/-
  Contracts of digest's functions with an open result; small facts about texts.
-/
import Derived.Test.YtklfkhhefjjpaaaDoorDJoin
import Derived.WalkKit
import Derived.WalkSpells
import Derived.WalkLawsBesides
import Derived.WalkSmall
import Derived.Lib.Hide
namespace Go.Proofs.YtklfkhhefjjpaaaDoor
open Go.RowKit

theorem is_true (s : ByteArray) (hs : s.size ≤ 9223372036854775807) (h : Dg.isDigest s.data.toList = true) (w : World) :
    Calls Tryd.prog 20 #[.string s] w fun e w' => e = .returned (.bool true) ∧ w = w' := by
  have := is_walk s hs w; rw [h] at this; exact this
theorem is_false (s : ByteArray) (hs : s.size ≤ 9223372036854775807) (h : Dg.isDigest s.data.toList = false) (w : World) :
    Calls Tryd.prog 20 #[.string s] w fun e w' => e = .returned (.bool false) ∧ w = w' := by
  have := is_walk s hs w; rw [h] at this; exact this

theorem sum_ex (s : ByteArray) (hs : s.size ≤ 9223372036854775807) (w : World) :
    Calls Tryd.prog 63 #[.string s] w fun e w' => ∃ r : ByteArray, e = .returned (.string r) ∧ Hid (r.data.toList = Dg.sum s.data.toList) ∧ r.size ≤ 9223372036854775807 ∧ Below w.heap.size w w' :=
  (sum_walk s hs w).mono fun _ _ ⟨h, hb⟩ => ⟨_, h, rfl, by rw [Dg.str_size, Dg.sum_length]; omega, hb⟩

theorem list_ex (v : Value) (ss : List ByteArray) (w : World) (hv : IsTexts w v ss) (hsum : (Dg.join (ss.map (·.data.toList))).length ≤ 140737488355328) (hl : ss.length ≤ 9223372036854775807) (ht : HasTab w) :
    Calls Tryd.prog 52 #[v] w fun e w' => ∃ r : ByteArray, e = .returned (.string r) ∧ Hid (r.data.toList = Dg.sum (Dg.join (ss.map (·.data.toList)))) ∧ r.size ≤ 9223372036854775807 ∧ Below w.heap.size w w' :=
  (list_walk v ss w hv hsum hl ht).mono fun _ _ ⟨h, hb⟩ => ⟨_, h, rfl, by rw [Dg.str_size, Dg.sum_length]; omega, hb⟩

namespace Dg
theorem cut_data (s : ByteArray) (n : Nat) : (s.extract 0 n).data.toList = s.data.toList.take n := by
  rw [Lib.extract_data, List.drop_zero, Nat.sub_zero]
theorem cut_le (s : ByteArray) (n : Nat) : (s.extract 0 n).size ≤ n := by
  rw [Lib.size_eq, cut_data, List.length_take]; exact Nat.min_le_left _ _
theorem cut_size {s : ByteArray} (hs : s.size ≤ 9223372036854775807) (n : Nat) : (s.extract 0 n).size ≤ 9223372036854775807 := by
  rw [Lib.size_eq, cut_data, List.length_take, len_data]; exact Nat.le_trans (Nat.min_le_right _ _) hs
end Dg
theorem eq_true {r s : ByteArray} {a b : List UInt8} (hr : Hid (r.data.toList = a)) (hs : Hid (s.data.toList = b)) (h : a = b) : (r.toList == s.toList) = true := by
  rw [Lib.toList_data, Lib.toList_data, hr.out, hs.out, h]; simp
theorem eq_false {r s : ByteArray} {a b : List UInt8} (hr : Hid (r.data.toList = a)) (hs : Hid (s.data.toList = b)) (h : a ≠ b) : (r.toList == s.toList) = false := by
  rw [Lib.toList_data, Lib.toList_data, hr.out, hs.out]; simpa using h

theorem same_iff {r1 r2 x y : ByteArray} {a b : List UInt8} (h1 : Hid (r1.data.toList = a)) (h2 : Hid (r2.data.toList = b)) (h : a = b ↔ x.data.toList = y.data.toList) :
    ((r1.toList == r2.toList) == (x.toList == y.toList)) = true := by
  rw [Lib.toList_data, Lib.toList_data, Lib.toList_data, Lib.toList_data, h1.out, h2.out, beq_iff_eq, Bool.eq_iff_iff, beq_iff_eq, beq_iff_eq]
  exact h

theorem texts_two (w : World) (x y : ByteArray) : IsTexts (w.alloc (.cells #[.string x, .string y] 9)) (.slice (some ⟨w.heap.size, 0, none⟩) 2 2) [x, y] := by
  refine ⟨_, _, rfl, fun _ => ⟨_, _, rfl, by simp, fun j hj => ?_⟩⟩
  match j, hj with
  | 0, _ => exact World.cell?_alloc_at _ _ _ _ rfl
  | 1, _ => exact World.cell?_alloc_at _ _ _ _ rfl

end Go.Proofs.YtklfkhhefjjpaaaDoor
