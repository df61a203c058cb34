/-
  The walk of the reference's In.
-/
import Derived.Test.YthikonibmpngmaaDoorCNums
namespace Go.Proofs.YthikonibmpngmaaDoor
open Go.RowKit

set_option maxHeartbeats 1000000 in
set_option maxRecDepth 100000 in
theorem refin_walk (v : Value) (l : List Int) (x : Int) (w : World) (hv : IsNums w v l) : Calls Tryd.prog 28 #[v, .int .i64 x] w fun e w' => e = .returned (.bool (l.contains x)) ∧ w = w' := by
  obtain ⟨a, cap, rfl, h1, h2, h3, h4⟩ := hv
  have H4 := Lib.hid h4
  clear h4 h3
  obtain ⟨n, hn⟩ : ∃ n, n = l.length := ⟨_, rfl⟩
  rw [← hn] at h1 ⊢
  have HN := Lib.hid hn
  obtain ⟨cc, hcc⟩ : ∃ cc, cc = l.contains x := ⟨_, rfl⟩
  rw [← hcc]
  have HC := Lib.hid hcc
  clear hn hcc
  go_enter Tryd.func28, Tryd.ntmps28
  go_wp2
  go_loop [5] (fun i => ∃ k : Nat, k ≤ n ∧ i = .int .i64 k ∧ Hid (∀ j, j < k → l.getD j 0 ≠ x)) (fun i => n - (intOf i).toNat)
  case atStart => exact ⟨0, Nat.zero_le _, rfl, fun j hj => absurd hj (by omega)⟩
  case round =>
    obtain ⟨k, hk, rfl, hno⟩ := hrel
    by_cases hlt : k < n
    · obtain ⟨b, off, ha, hb, hc⟩ := H4.out (by intro e; have := HN.out; rw [e] at this; simp at this; omega)
      subst ha
      have c := hc k (by have := HN.out; omega)
      obtain ⟨z, hz⟩ : ∃ z, z = l.getD k 0 := ⟨_, rfl⟩
      rw [← hz] at c
      have HZ := Lib.hid hz
      clear hz hc
      by_cases he : z = x
      · subst he
        have HX := Lib.hid (contains_at (by have := HN.out; omega) z HZ.out)
        go_wp2
        go_ret
        exact ⟨by rw [HC.out, HX.out]; rfl, rfl⟩
      · have hf : (z == x) = false := by simpa using he
        have HE := Lib.hid he
        clear he
        go_wp2
        go_round
        case rel =>
          refine ⟨k + 1, by omega, by go_num, fun j hj => ?_⟩
          by_cases e : j = k
          · subst e; rw [← HZ.out]; exact HE.out
          · exact hno.out j (by omega)
        case measure => simp [intOf]; omega
    · obtain rfl : k = n := by omega
      have HX := Lib.hid (not_contains (l := l) (x := x) (by rw [← HN.out]; exact hno.out))
      go_wp2
      go_ret
      exact ⟨by rw [HC.out, HX.out]; rfl, rfl⟩
end Go.Proofs.YthikonibmpngmaaDoor
