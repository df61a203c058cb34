/-
  P7.3 in arithmetic: the six comparisons of a fact.
-/
import Derived.Test.YtjcaingfeaaakaaMHead
namespace Go.Proofs.Ytjcaingfeaaakaa.Fm
open Lx

theorem tst_err {d : List Fc.Fact} {x : T} {k n : Int} (ts : T → Bool) : check Fc.isNm (fs d) ts (tst x k n) = if wf Fc.isNm (tst x k n) = false then 1 else if n < 0 ∨ 1000000 < n then 10 else if fs d x = false then 7 else 0 := by
  unfold tst check
  rw [if_neg (by rw [size, sizeL, depth, depthL]; omega), errs, errsL, err1]
  simp only [if_true]
  split
  · rfl
  · generalize (if n < 0 ∨ 1000000 < n then 10 else if fs d x = false then 7 else 0 : Nat) = z
    split <;> omega
theorem tst_holds {d : List Fc.Fact} {c : List Int} {i : Nat} {f : Fc.Fact} {k n : Int} (hfit : Fc.Fit d c) (hf : d[i]? = some f) (hn : 0 ≤ n) (hn2 : n ≤ 1000000) (hk : 1 ≤ k) (hk2 : k ≤ 6) : holdsB d c [] (tst f.name k n) = compares k (c.getD i 0) n := by
  have hv := hfit.1
  have hok := hv.1 f (List.mem_of_getElem? hf)
  have hidx := Fc.idx_some (Fc.index_at hv.2.1 hf)
  have hnm : Fc.isNm f.name = true := (Fc.isNm_iff _).2 hok.name
  rw [holdsB_yes hfit]
  · unfold tst; rw [holds]; unfold val; rw [hidx]; simp
  · show check _ _ _ _ = 0
    rw [tst_err, if_neg (by unfold tst; rw [wf]; simp [hnm, hk, hk2]), if_neg (by omega), if_neg (by unfold fs; rw [hidx]; simp)]
theorem tst_bad {d : List Fc.Fact} {c : List Int} {x : T} {k n : Int} (hk : k < 1 ∨ 6 < k) : holdsB d c [] (tst x k n) = false := by
  refine holdsB_bad ?_
  show check _ _ _ _ ≠ 0
  rw [tst_err, if_pos (by unfold tst; rw [wf]; simp; omega)]
  decide
end Go.Proofs.Ytjcaingfeaaakaa.Fm
