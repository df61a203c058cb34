/-
  Texts of one length that differ in one block only have one digest exactly if they are equal. No program in this text.
-/
import Derived.Test.YtddfkffaecgjiaaDoorDMath
namespace Go.Proofs.YtddfkffaecgjiaaDoor.Dg

theorem getD_out (pre x y rest : List UInt8) (hxy : x.length = y.length) (j : Nat) (h : j < pre.length ∨ pre.length + x.length ≤ j) :
    (pre ++ x ++ rest).getD j 0 = (pre ++ y ++ rest).getD j 0 := by
  rw [List.getD_eq_getElem?_getD, List.getD_eq_getElem?_getD, List.append_assoc, List.append_assoc]
  rcases h with h | h
  · rw [List.getElem?_append_left h, List.getElem?_append_left h]
  · rw [List.getElem?_append_right (by omega), List.getElem?_append_right (by omega), List.getElem?_append_right (by omega), List.getElem?_append_right (by omega), hxy]

theorem getD_in (pre x rest : List UInt8) (i : Nat) (h : i < x.length) : (pre ++ x ++ rest).getD (pre.length + i) 0 = x[i] := by
  rw [List.getD_eq_getElem?_getD, List.append_assoc, List.getElem?_append_right (by omega), Nat.add_sub_cancel_left, List.getElem?_append_left h, List.getElem?_eq_getElem h]; rfl

theorem block_iff (pre x y rest : List UInt8) (p : Nat) (hp : pre.length = 8 * p) (hxy : x.length = y.length) (h8 : x.length ≤ 8) (hl : (pre ++ x ++ rest).length < M) :
    sum (pre ++ x ++ rest) = sum (pre ++ y ++ rest) ↔ x = y := by
  have hn : (pre ++ x ++ rest).length = (pre ++ y ++ rest).length := by simp [hxy]
  have hplt : p < (pre ++ x ++ rest).length / 8 + 1 := by simp only [List.length_append]; omega
  rw [sum_inj, sumN, sumN, ← hn, state_block _ _ hn hl p ?_ _ hplt]
  · constructor
    · intro h
      have h' := num_inj _ _ _ _ 8 h
      apply List.ext_getElem hxy
      intro i hi hi'
      have := h' i (by omega)
      rw [← hp, getD_in pre x rest i hi, getD_in pre y rest i hi'] at this
      exact this
    · intro h; rw [h]
  · intro k hk
    apply num_congr
    intro i hi
    exact getD_out pre x y rest hxy _ (by omega)
end Go.Proofs.YtddfkffaecgjiaaDoor.Dg
