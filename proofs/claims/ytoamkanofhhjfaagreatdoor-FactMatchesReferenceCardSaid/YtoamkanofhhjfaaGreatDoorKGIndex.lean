import Derived.Test.YtoamkanofhhjfaaGreatDoorKFCon
/-
  The walk of the reference's Index.
-/
namespace Go.Proofs.YtoamkanofhhjfaaGreatDoor
open Go.RowKit

namespace Fc
/-- None of the first facts has the name. -/
def NotTo (l : List Fact) (name : Lx.T) (k : Nat) : Prop := ∀ j, j < k → ∀ g, l[j]? = some g → g.name ≠ name
theorem NotTo.succ {l : List Fact} {name : Lx.T} {k : Nat} {f : Fact} (h : NotTo l name k) (hf : l[k]? = some f) (hn : f.name ≠ name) : NotTo l name (k + 1) := by
  intro j hj g hg
  by_cases hjk : j = k
  · subst hjk; rw [hf] at hg; obtain rfl := Option.some.inj hg; exact hn
  · exact h j (by omega) g hg
end Fc

set_option maxHeartbeats 4000000 in
set_option maxRecDepth 100000 in
theorem refindex_walk (v : Value) (l : List Fc.Fact) (u : ByteArray) (w : World) (hv : Fc.IsF w v l) :
    Calls Tryz.prog 17 #[.agg #[v], .string u] w (Fc.Gives (.int .i64 (Fc.idx l (Lx.tx u))) w) := by
  obtain ⟨a, c, g, o, rfl, hn1, hn2, hga, hcl⟩ := hv.any
  obtain ⟨z, hz⟩ : ∃ z, z = Fc.idx l (Lx.tx u) := ⟨_, rfl⟩
  obtain ⟨n, hn⟩ : ∃ n, n = l.length := ⟨_, rfl⟩
  rw [← hn] at hn1 ⊢
  rw [← hz]
  have HZ := Lib.hid hz
  have HN := Lib.hid hn
  have HG : Hid (0 < n → a = some ⟨g, o, none⟩ ∧ g < w.heap.size) := (fun h => hga (by rintro rfl; rw [hn] at h; simp at h) : 0 < n → a = some ⟨g, o, none⟩ ∧ g < w.heap.size)
  have HC := Lib.hid hcl
  have hnb : n ≤ 9223372036854775807 := Nat.le_trans hn1 hn2
  have HB0 := Lib.hid (Boxed.start w (.slice a n c))
  clear hv hga hcl hn hn1 hn2 hz
  go_enter Tryz.func17, Tryz.ntmps17
  go_wp2_with fail
  go_loopw [5] (fun i wr => ∃ k : Nat, k ≤ n ∧ i = .int .i64 k ∧ Hid (Fc.NotTo l (Lx.tx u) k) ∧ Hid (Boxed w (.slice a n c) wr)) (fun i _ => n - (intOf i).toNat)
  case atStart => exact ⟨0, Nat.zero_le _, rfl, fun j hj => absurd hj (by omega), HB0⟩
  case round =>
    obtain ⟨k, hk, rfl, hq, hb⟩ := hrel
    clear HB0
    have b1 := hb.out.cell
    by_cases hlt : k < n
    · have hki : (k : Int) < (n : Int) := by omega
      have hk0 : (0 : Int) ≤ (k : Int) := by omega
      obtain ⟨rfl, hgl⟩ := HG.out (by omega)
      obtain ⟨f, hf⟩ : ∃ f, l[k]? = some f := ⟨_, List.getElem?_eq_getElem (by rw [← HN.out]; exact hlt)⟩
      obtain ⟨q0, _, _, _⟩ := HC.out k f hf
      have p0 := (hb.out.below.cell (p := ⟨g, o + k * 4, none⟩) hgl).trans q0
      obtain ⟨s, hs⟩ : ∃ s, s = Lx.str f.name := ⟨_, rfl⟩
      rw [← hs] at p0
      by_cases hfn : f.name = Lx.tx u
      · have heq : (s.toList == u.toList) = true := by rw [hs]; exact (Fc.name_eq _ _).2 hfn
        have hzk : z = (k : Int) := by rw [HZ.out]; exact Fc.idx_of hf hfn hq.out
        clear q0 hs hq hf
        subst hzk
        go_wp2_with fail
        go_ret
        exact ⟨rfl, hb.out.below⟩
      · have heq : (s.toList == u.toList) = false := by
          cases h : (s.toList == u.toList) with
          | false => rfl
          | true => rw [hs] at h; exact absurd ((Fc.name_eq _ _).1 h) hfn
        have HK := Lib.hid (hq.out.succ hf hfn)
        clear q0 hs hq hf
        go_wp2_with fail
        go_roundw
        case rel => exact ⟨k + 1, by omega, by go_num, HK, hb⟩
        case measure => simp [intOf]; omega
    · have hki : ¬ (k : Int) < (n : Int) := by omega
      have hzk : z = -1 := by rw [HZ.out]; exact Fc.idx_not (by have := hq.out; rw [show k = n by omega, HN.out] at this; exact this)
      clear hq
      subst hzk
      go_wp2_with fail
      go_ret
      exact ⟨rfl, hb.out.below⟩
end Go.Proofs.YtoamkanofhhjfaaGreatDoor
