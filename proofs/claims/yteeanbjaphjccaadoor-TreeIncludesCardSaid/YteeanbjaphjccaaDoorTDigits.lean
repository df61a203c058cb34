/-
  The binary digits of a length, and what the laws on paths and links need in arithmetic.
-/
import Derived.Test.YteeanbjaphjccaaDoorTExtFn
import Derived.Test.YteeanbjaphjccaaDoorTFew
namespace Go.Proofs.YteeanbjaphjccaaDoor
open Go.RowKit
namespace Tr
/-- A link proves that the list extends its beginning. -/
theorem ext_link {l : List T} {m : Nat} (h0 : 0 < m) (hm : m ≤ l.length) (hl : l.length ≤ 1000000) : ext (root (l.take m)) m (root l) l.length (link l m true) = true := by
  unfold ext
  rw [Int.toNat_natCast, Int.toNat_natCast, root_isDigest, root_isDigest, link_digests l.length l m true rfl, link_length l.length l m true rfl, link_both l.length l m true _ rfl h0 hm (fun _ => rfl), if_neg (by omega), decide_eq_true (by omega : (0 : Int) ≤ m), decide_eq_true (by omega : (m : Int) ≤ l.length), decide_eq_true (by omega : (l.length : Int) ≤ 1000000)]
  simp
theorem ext_link0 {l : List T} (hl : l.length ≤ 1000000) : ext (root (l.take 0)) 0 (root l) l.length [] = true := by
  unfold ext
  rw [root_isDigest, root_isDigest, if_pos rfl, List.take_zero, root_nil, decide_eq_true (by omega : (0 : Int) ≤ 0), decide_eq_true (by omega : (0 : Int) ≤ l.length), decide_eq_true (by omega : (l.length : Int) ≤ 1000000)]
  match l with
  | [] => simp [root_nil]
  | x :: l => simp
theorem check_path {l : List T} {i : Nat} {d : T} (hi : i < l.length) (hl : l.length ≤ 1000000) (hd : d = l[i]) : check (root l) l.length i d (path l i) = true := by
  unfold check
  rw [Int.toNat_natCast, Int.toNat_natCast, path_digests l.length l i rfl, path_length l.length l i rfl, path_up l.length l i (leaf d) rfl hi (by rw [hd]), decide_eq_true (by omega : (0 : Int) ≤ i), decide_eq_true (by omega : (i : Int) < l.length), decide_eq_true (by omega : (l.length : Int) ≤ 1000000)]
  simp
theorem check_length {p : List T} {r d : T} {n i : Nat} (h : p.length ≠ plen n i) : check r n i d p = false := by
  unfold check
  rw [Int.toNat_natCast, Int.toNat_natCast, decide_eq_false h]; simp
theorem digits_step {n q d : Nat} (h : n < (q + 1) * 2 ^ d) : n < (q / 2 + 1) * 2 ^ (d + 1) := by
  rw [Nat.pow_succ, Nat.mul_comm (2 ^ d) 2, ← Nat.mul_assoc]
  refine Nat.lt_of_lt_of_le h (Nat.mul_le_mul_right _ ?_)
  omega
theorem digits_end {n d : Nat} (h : n < (0 + 1) * 2 ^ d) : n ≤ 2 ^ d := by omega
end Tr
end Go.Proofs.YteeanbjaphjccaaDoor
