/-
  The walk of the program's tokens: the source that its closure makes; the closure as an iterator.
-/
import Derived.RangeFuncNested
import Derived.RangeFuncBound
import Derived.RangeFuncCalls
import Derived.RangeFuncLeaves
import Derived.RangeFuncBox
import Derived.Shelf.Abstract
import Derived.Shelf.RegionOpen
import Derived.OwnWalkIn
import Derived.TacticsInMore
import Derived.LoopNIn
import Derived.LoopIn
import Derived.Laws.EntriesVeiled
import Derived.Deep.RegionHeld3
import Derived.Deep.CutRange
import Derived.Test.YtidmonmkpkbhjaaETab
namespace Go.Proofs.Ytidmonmkpkbhjaa
open Go.RowKit Go.Shelf

attribute [local go_sem] Oper.semAt_some

set_option maxHeartbeats 1000000 in
set_option maxRecDepth 100000 in
theorem tokens_made (s : ByteArray) (w : World) :
    Calls Try.prog 20 #[.string s] w fun e w' => e = .returned (.func (.func 25) #[] #[.pointer (some ⟨w.heap.size, 0, none⟩)]) ∧ w' = w.alloc (.cells #[.string s] 9) := by
  go_enter Try.func20, Try.ntmps20
  go_wp2_with fail
  go_ret
  exact ⟨rfl, rfl⟩

/-- The zero value of a source, its cells a letter; and what a source is built to. -/
theorem zero_source : ∃ Z : Array Value, Z.size = 257 ∧ (∀ w, (zeroValue 51).run Try.prog w = .ok (.agg Z) w) := by
  have h : (Try.prog.info? 51).map (·.zero) = some (some (.agg (#[.string ⟨#[]⟩] ++ Array.replicate 256 (.int .u8 0)))) := by kernel_rfl
  refine ⟨#[.string ⟨#[]⟩] ++ Array.replicate 256 (.int .u8 0), by simp, fun w => ?_⟩
  cases hi : Try.prog.info? 51 with
  | none => rw [hi] at h; cases h
  | some i =>
    rw [hi] at h
    have hz : i.zero = some (.agg (#[.string ⟨#[]⟩] ++ Array.replicate 256 (.int .u8 0))) := Option.some.inj h
    simp only [zeroValue, Sem.run_bind]
    rw [show (typeInfo 51).run Try.prog w = .ok i w by simp [typeInfo, hi]]
    simp only [Result.andThen, hz]
    simp

namespace Lx
theorem fold_set (off : Nat) : ∀ (l : List Value) (k : Nat) (A : Array Value), off + k + l.length ≤ A.size →
    ((l.zipIdx k).foldl (fun cs x => cs.setIfInBounds (off + x.2) x.1) A).size = A.size ∧
    ∀ i, ((l.zipIdx k).foldl (fun cs x => cs.setIfInBounds (off + x.2) x.1) A)[i]? = if off + k ≤ i ∧ i < off + k + l.length then l[i - (off + k)]? else A[i]?
  | [], k, A, _ => ⟨rfl, fun i => by rw [if_neg (by rw [List.length_nil]; omega)]; rfl⟩
  | c :: l, k, A, h => by
    rw [List.length_cons] at h
    rw [List.zipIdx_cons, List.foldl_cons]
    obtain ⟨h1, h2⟩ := fold_set off l (k + 1) (A.setIfInBounds (off + k) c) (by rw [Array.size_setIfInBounds]; omega)
    refine ⟨by rw [h1, Array.size_setIfInBounds], fun i => ?_⟩
    rw [h2 i, List.length_cons]
    by_cases hi : i = off + k
    · subst hi
      rw [if_neg (by omega), if_pos (by omega), Array.getElem?_setIfInBounds_self_of_lt (by omega), Nat.sub_self]; rfl
    · rw [Array.getElem?_setIfInBounds_ne (by omega)]
      by_cases hr : off + (k + 1) ≤ i ∧ i < off + (k + 1) + l.length
      · rw [if_pos hr, if_pos (by omega), show i - (off + k) = (i - (off + (k + 1))) + 1 by omega, List.getElem?_cons_succ]
      · rw [if_neg hr, if_neg (by omega)]
end Lx
/-- What a source is built to. -/
theorem built_source (s : ByteArray) (cs : Array Value) (h : Lx.IsTab cs) :
    ∃ S : Array Value, Try.prog.built 51 [(0, .string s), (1, .agg cs)] = some S ∧ S.size = 257 ∧ S.all (·.oneCell') = true ∧ Lx.IsSrc s S := by
  obtain ⟨h1, h2, h3⟩ := h
  have hz : (Try.prog.info? 51).map (·.zero) = some (some (.agg (#[.string ⟨#[]⟩] ++ Array.replicate 256 (.int .u8 0)))) := by kernel_rfl
  obtain ⟨Z, hZ⟩ : ∃ Z : Array Value, Z = #[.string ⟨#[]⟩] ++ Array.replicate 256 (.int .u8 0) := ⟨_, rfl⟩
  have hZs : Z.size = 257 := by rw [hZ]; simp
  rw [← hZ] at hz
  cases hi : Try.prog.info? 51 with
  | none => rw [hi] at hz; cases hz
  | some it =>
    rw [hi] at hz
    have hz2 : it.zero = some (.agg Z) := Option.some.inj hz
    obtain ⟨h5, h6⟩ := Lx.fold_set 1 cs.toList 0 (Z.setIfInBounds 0 (.string s)) (by rw [Array.size_setIfInBounds, hZs, Array.length_toList, h1]; omega)
    obtain ⟨S, hS⟩ : ∃ S, S = ((cs.toList.zipIdx 0).foldl (fun cs x => cs.setIfInBounds (1 + x.2) x.1) (Z.setIfInBounds 0 (.string s))) := ⟨_, rfl⟩
    rw [← hS] at h5 h6
    rw [Array.size_setIfInBounds, hZs] at h5
    have s0 : S[0]? = some (.string s) := by
      rw [h6 0, if_neg (by omega), Array.getElem?_setIfInBounds_self_of_lt (by omega)]
    have s1 : ∀ n, n < 256 → S[n + 1]? = cs[n]? := fun n hn => by
      rw [h6 (n + 1), if_pos (by rw [Array.length_toList]; omega), show n + 1 - (1 + 0) = n by omega, Array.getElem?_toList]
    refine ⟨S, ?_, h5, ?_, s0, fun n hn => by rw [s1 n hn, h3 n hn]⟩
    · unfold Program.built
      rw [hi, Try.underlying51]
      simp only [hz2]
      split
      · rename_i z places hzz hp
        obtain rfl : Value.agg Z = z := Option.some.inj hzz
        have hpl : places = [(0, 1), (1, 256)] := Option.some.inj (hp.symm.trans (show _ = some [(0, 1), (1, 256)] by kernel_rfl))
        subst hpl
        have g1 : ¬ ((decide ((Value.string s).cells.size ≠ 1) || decide (0 + (Value.string s).cells.size > (Value.agg Z).cells.size)) = true) := by
          simp [Value.cells, hZs]
        have g2 : ¬ ((decide ((Value.agg cs).cells.size ≠ 256) || decide (1 + (Value.agg cs).cells.size > (Z.setIfInBounds 0 (.string s)).size)) = true) := by
          simp [Value.cells, hZs, h1]
        have e1 : (Value.string s).cells.zipIdx.foldl (fun cs x => cs.setIfInBounds (0 + x.2) x.1) (Value.agg Z).cells = Z.setIfInBounds 0 (.string s) := by
          simp [Value.cells]
        have e2 : (Value.agg cs).cells.zipIdx.foldl (fun cs x => cs.setIfInBounds (1 + x.2) x.1) (Z.setIfInBounds 0 (.string s)) = S := by
          rw [hS, ← Array.foldl_toList, Array.toList_zipIdx]; rfl
        simp only [Instr.fill]
        simp only [show ([(0, 1), (1, 256)] : List (Nat × Nat)).toArray[0]? = some (0, 1) from rfl, show ([(0, 1), (1, 256)] : List (Nat × Nat)).toArray[1]? = some (1, 256) from rfl]
        rw [if_neg g1, e1, if_neg g2, e2]
      · rename_i hno
        exact absurd (show _ = some [(0, 1), (1, 256)] by kernel_rfl) (fun h => hno _ _ rfl h)
    · rw [Array.all_eq_true]
      intro j hj
      have e := Array.getElem?_eq_getElem hj
      cases j with
      | zero => rw [s0] at e; rw [← Option.some.inj e]; rfl
      | succ n =>
        rw [s1 n (by omega), h3 n (by omega)] at e
        rw [← Option.some.inj e]; rfl

namespace Lx
theorem step_of {c : Bool} {A B : Prop} (hc : c = true) (h : A) : if c = true then A else B := by rw [if_pos hc]; exact h
end Lx
section
variable {ops : Array Oper} {o : Oper} {a : Act} {W : World} {K : Act → World → Prop} {Q : Exit → Act → World → Prop} {E : Prop}
theorem st_load {n Bt : Nat} {w : World} {s : ByteArray} (hgd : o.guard = none) (ho : o.op = .load 9 (.tmp 1)) (hx : a.eval (.tmp 1) = .pointer (some ⟨Bt, 0, none⟩)) (hb : Below n w W) (hlt : Bt < n)
    (hc : w.cell? ⟨Bt, 0, none⟩ = some (.string s)) (h : K (a.put o.dst (.string s)) W) : if Region.wanted o (yielded ops a.tmps) = true then Oper.wp Try.prog o a W K Q else E := by
  refine Lx.step_of (by simp [Region.wanted, hgd]) ?_
  have hc2 : W.cell? ⟨Bt, 0, none⟩ = some (.string s) := (hb.cell (p := ⟨Bt, 0, none⟩) hlt).trans hc
  unfold Oper.wp execOp
  simp only [ho, hx]
  go_simp
  exact h
theorem st_alloc {Z : Array Value} (hZ : ∀ w, (zeroValue 51).run Try.prog w = .ok (.agg Z) w) (hgd : o.guard = none) (ho : o.op = .alloc 51)
    (h : K (a.put o.dst (.pointer (some ⟨W.heap.size, 0, none⟩))) (W.alloc (.cells Z 51))) : if Region.wanted o (yielded ops a.tmps) = true then Oper.wp Try.prog o a W K Q else E := by
  refine Lx.step_of (by simp [Region.wanted, hgd]) ?_
  unfold Oper.wp execOp
  simp only [ho]
  go_simp
  exact h
theorem st_build {s : ByteArray} {cs : Array Value} (hcs : Lx.IsTab cs) (hgd : o.guard = none) (ho : o.op = .build 51 #[(0, .tmp 7), (1, .tmp 8)]) (h7 : a.eval (.tmp 7) = .string s) (h8 : a.eval (.tmp 8) = .agg cs)
    (h : ∀ S : Array Value, S.size = 257 → S.all (·.oneCell') = true → Lx.IsSrc s S → K (a.put o.dst (.agg S)) W) : if Region.wanted o (yielded ops a.tmps) = true then Oper.wp Try.prog o a W K Q else E := by
  refine Lx.step_of (by simp [Region.wanted, hgd]) ?_
  obtain ⟨S, hb0, q1, q2, q3⟩ := built_source s cs hcs
  have hb : Try.prog.built 51 (#[(0, Operand.tmp 7), (1, Operand.tmp 8)].map fun (i, x) => (i, a.eval x)).toList = some S := by
    rw [← hb0, ← h7, ← h8]; simp
  refine wp_build _ _ ho (by rw [hb]; rfl) ?_
  rw [hb]
  exact h S q1 q2 q3
theorem st_store {g : Nat} {Z S : Array Value} (hgd : o.guard = none) (ho : o.op = .store 51 (.tmp 3) (.tmp 9)) (h3 : a.eval (.tmp 3) = .pointer (some ⟨g, 0, none⟩)) (h9 : a.eval (.tmp 9) = .agg S)
    (hk : W.heap[g]? = some (.cells Z 51 (0, 0))) (hz : Z.size = 257) (hs : S.size = 257) (h1 : S.all (·.oneCell') = true)
    (h : K (a.put o.dst undef) (W.setRow g S)) : if Region.wanted o (yielded ops a.tmps) = true then Oper.wp Try.prog o a W K Q else E := by
  refine Lx.step_of (by simp [Region.wanted, hgd]) ?_
  exact wp_store_row _ _ _ ho g S h3 h9 _ Z hk (by rw [hs]; kernel_rfl) (by rw [hz, hs]) h1 h
theorem st_call (hgd : o.guard = none) (ho : o.op = .call { callee := .value (.func 26), args := #[], argTypes := #[] })
    (h : ∀ cs W', Lx.IsTab cs → Below W.heap.size W W' → K (a.put o.dst (.agg cs)) W') : if Region.wanted o (yielded ops a.tmps) = true then Oper.wp Try.prog o a W K Q else E := by
  refine Lx.step_of (by simp [Region.wanted, hgd]) ?_
  unfold Oper.wp execOp
  simp only [ho]
  go_simp
  refine (table_walk W).mono ?_
  rintro e w2 ⟨cs, ht, rfl, hb⟩
  exact h cs w2 ht hb
end
end Go.Proofs.Ytidmonmkpkbhjaa
