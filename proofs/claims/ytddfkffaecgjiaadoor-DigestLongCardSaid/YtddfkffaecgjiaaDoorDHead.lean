/-
  The walk of the law's fixed examples: they hold.
-/
import Derived.Test.YtddfkffaecgjiaaDoorDJoin
import Derived.WalkKit
import Derived.WalkSpells
import Derived.WalkLawsBesides
import Derived.WalkSmall
import Derived.Lib.Hide
namespace Go.Proofs.YtddfkffaecgjiaaDoor
open Go.RowKit

theorem is_true (s : ByteArray) (hs : s.size ≤ 9223372036854775807) (h : Dg.isDigest s.data.toList = true) (w : World) :
    Calls Tryd.prog 18 #[.string s] w fun e w' => e = .returned (.bool true) ∧ w = w' := by
  have := is_walk s hs w; rw [h] at this; exact this
theorem is_false (s : ByteArray) (hs : s.size ≤ 9223372036854775807) (h : Dg.isDigest s.data.toList = false) (w : World) :
    Calls Tryd.prog 18 #[.string s] w fun e w' => e = .returned (.bool false) ∧ w = w' := by
  have := is_walk s hs w; rw [h] at this; exact this

theorem sum_ex (s : ByteArray) (hs : s.size ≤ 9223372036854775807) (w : World) :
    Calls Tryd.prog 12 #[.string s] w fun e w' => ∃ r : ByteArray, e = .returned (.string r) ∧ Hid (r.data.toList = Dg.sum s.data.toList) ∧ r.size ≤ 9223372036854775807 ∧ Below w.heap.size w w' :=
  (sum_walk s hs w).mono fun _ _ ⟨h, hb⟩ => ⟨_, h, rfl, by rw [Dg.str_size, Dg.sum_length]; omega, hb⟩

theorem list_ex (v : Value) (ss : List ByteArray) (w : World) (hv : IsTexts w v ss) (hsum : (Dg.join (ss.map (·.data.toList))).length ≤ 140737488355328) (hl : ss.length ≤ 9223372036854775807) (ht : HasTab w) :
    Calls Tryd.prog 14 #[v] w fun e w' => ∃ r : ByteArray, e = .returned (.string r) ∧ Hid (r.data.toList = Dg.sum (Dg.join (ss.map (·.data.toList)))) ∧ r.size ≤ 9223372036854775807 ∧ Below w.heap.size w w' :=
  (list_walk v ss w hv hsum hl ht).mono fun _ _ ⟨h, hb⟩ => ⟨_, h, rfl, by rw [Dg.str_size, Dg.sum_length]; omega, hb⟩

theorem chain_ex (s : ByteArray) (hs : s.size ≤ 9223372036854775807) (n : Int) (w : World) :
    Calls Tryd.prog 16 #[.string s, .int .i64 n] w fun e w' => ∃ r : ByteArray, e = .returned (.string r) ∧ Hid (r.data.toList = Dg.chain s.data.toList (min n 1000).toNat) ∧ r.size ≤ 9223372036854775807 ∧ Below w.heap.size w w' :=
  (chain_walk s hs n w).mono fun _ _ ⟨h, hb⟩ => ⟨_, h, rfl, Dg.chain_size s hs _, hb⟩

namespace Dg
theorem cut_data (s : ByteArray) (n : Nat) : (s.extract 0 n).data.toList = s.data.toList.take n := by
  rw [Lib.extract_data, List.drop_zero, Nat.sub_zero]
theorem cut_le (s : ByteArray) (n : Nat) : (s.extract 0 n).size ≤ n := by
  rw [Lib.size_eq, cut_data, List.length_take]; exact Nat.min_le_left _ _
theorem cut_size {s : ByteArray} (hs : s.size ≤ 9223372036854775807) (n : Nat) : (s.extract 0 n).size ≤ 9223372036854775807 := by
  rw [Lib.size_eq, cut_data, List.length_take, len_data]; exact Nat.le_trans (Nat.min_le_right _ _) hs
end Dg
theorem eq_true {r s : ByteArray} {a b : List UInt8} (hr : Hid (r.data.toList = a)) (hs : Hid (s.data.toList = b)) (h : a = b) : (r.toList == s.toList) = true := by
  rw [Lib.toList_data, Lib.toList_data, hr.out, hs.out, h]; simp
theorem eq_false {r s : ByteArray} {a b : List UInt8} (hr : Hid (r.data.toList = a)) (hs : Hid (s.data.toList = b)) (h : a ≠ b) : (r.toList == s.toList) = false := by
  rw [Lib.toList_data, Lib.toList_data, hr.out, hs.out]; simpa using h

theorem same_iff {r1 r2 x y : ByteArray} {a b : List UInt8} (h1 : Hid (r1.data.toList = a)) (h2 : Hid (r2.data.toList = b)) (h : a = b ↔ x.data.toList = y.data.toList) :
    ((r1.toList == r2.toList) == (x.toList == y.toList)) = true := by
  rw [Lib.toList_data, Lib.toList_data, Lib.toList_data, Lib.toList_data, h1.out, h2.out, beq_iff_eq, Bool.eq_iff_iff, beq_iff_eq, beq_iff_eq]
  exact h

theorem texts_two (w : World) (x y : ByteArray) : IsTexts (w.alloc (.cells #[.string x, .string y] 9)) (.slice (some ⟨w.heap.size, 0, none⟩) 2 2) [x, y] := by
  refine ⟨_, _, rfl, fun _ => ⟨_, _, rfl, by simp, fun j hj => ?_⟩⟩
  match j, hj with
  | 0, _ => exact World.cell?_alloc_at _ _ _ _ rfl
  | 1, _ => exact World.cell?_alloc_at _ _ _ _ rfl

theorem join_ab : Dg.join ([⟨#[97]⟩, ⟨#[98, 99]⟩].map fun s : ByteArray => s.data.toList) = [49, 58, 97, 50, 58, 98, 99] := by
  simp only [List.map_cons, List.map_nil, Dg.join, Dg.dec_small (show ([97] : List UInt8).length < 10 by decide), Dg.dec_small (show ([98, 99] : List UInt8).length < 10 by decide)]
  rfl

set_option maxHeartbeats 1000000 in
set_option maxRecDepth 100000 in
theorem head_walk (w : World) (ht : HasTab w) :
    Calls Tryd.prog 10 #[] w fun e w' => e = .returned (.bool true) ∧ Below w.heap.size w w' := by
  have HT := Lib.hid ht
  clear ht
  go_enter Tryd.func10, Tryd.ntmps10
  go_wp2_with fail
  refine (is_true _ (by decide) (by decide) w).mono ?_
  rintro e w' ⟨rfl, rfl⟩
  go_wp2_with fail
  refine (is_false _ (by decide) (by decide) w).mono ?_
  rintro e w' ⟨rfl, rfl⟩
  go_wp2_with fail
  refine (is_false _ (by decide) (by decide) w).mono ?_
  rintro e w' ⟨rfl, rfl⟩
  go_wp2_with fail
  refine (list_ex _ [⟨#[97]⟩, ⟨#[98, 99]⟩] _ (texts_two w _ _) (by rw [join_ab]; decide) (by decide) (HT.out.below ((Below.refl _ w).alloc (Nat.le_refl _) _))).mono ?_
  rintro e w1 ⟨r1, rfl, hr1, hl1, hb1⟩
  go_wp2_with fail
  refine (sum_ex _ (by decide) w1).mono ?_
  rintro e w2 ⟨r2, rfl, hr2, hl2, hb2⟩
  have q12 := eq_true hr1 hr2 (congrArg Dg.sum join_ab)
  go_wp2_with fail
  refine (chain_ex _ (by decide) 0 w2).mono ?_
  rintro e w3 ⟨r3, rfl, hr3, hl3, hb3⟩
  have q3 : (r3.toList == [120]) = true := by rw [Lib.toList_data, hr3.out]; rfl
  go_wp2_with fail
  refine (chain_ex _ (by decide) 2 w3).mono ?_
  rintro e w4 ⟨r4, rfl, hr4, hl4, hb4⟩
  go_wp2_with fail
  refine (sum_ex _ (by decide) w4).mono ?_
  rintro e w5 ⟨r5, rfl, hr5, hl5, hb5⟩
  go_wp2_with fail
  refine (sum_ex _ hl5 w5).mono ?_
  rintro e w6 ⟨r6, rfl, hr6, hl6, hb6⟩
  have q46 := eq_true hr4 hr6 (by rw [hr5.out]; rfl)
  go_wp2_with fail
  refine (sum_ex _ (by decide) w6).mono ?_
  rintro e w7 ⟨r7, rfl, hr7, hl7, hb7⟩
  go_wp2_with fail
  refine (sum_ex _ (by decide) w7).mono ?_
  rintro e w8 ⟨r8, rfl, hr8, hl8, hb8⟩
  have q78 := eq_false hr7 hr8 (fun h => absurd ((Dg.short _ _ (by decide) (by decide)).1 h) (by decide))
  go_wp2_with fail
  refine (sum_ex _ (by decide) w8).mono ?_
  rintro e w9 ⟨r9, rfl, hr9, hl9, hb9⟩
  go_wp2_with fail
  refine (sum_ex _ (by decide) w9).mono ?_
  rintro e w10 ⟨r10, rfl, hr10, hl10, hb10⟩
  have q9 := eq_false hr9 hr10 (fun h => absurd ((Dg.short _ _ (by decide) (by decide)).1 h) (by decide))
  go_wp2_with fail
  go_ret
  have b0 := (Below.refl w.heap.size w).alloc (Nat.le_refl _) (.cells #[.string ⟨#[97]⟩, .string ⟨#[98, 99]⟩] 9)
  have b1 := b0.trans (hb1.mono b0.size)
  have b2 := b1.trans (hb2.mono b1.size)
  have b3 := b2.trans (hb3.mono b2.size)
  have b4 := b3.trans (hb4.mono b3.size)
  have b5 := b4.trans (hb5.mono b4.size)
  have b6 := b5.trans (hb6.mono b5.size)
  have b7 := b6.trans (hb7.mono b6.size)
  have b8 := b7.trans (hb8.mono b7.size)
  have b9 := b8.trans (hb9.mono b8.size)
  exact ⟨rfl, b9.trans (hb10.mono b9.size)⟩
end Go.Proofs.YtddfkffaecgjiaaDoor
