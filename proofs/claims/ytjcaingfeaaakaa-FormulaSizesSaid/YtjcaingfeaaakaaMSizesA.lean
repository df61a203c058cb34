/-
  P7.6 and P7.8 in arithmetic: sizes of what is expanded.
-/
import Derived.Test.YtjcaingfeaaakaaMRefB
import Derived.Test.YtjcaingfeaaakaaMPlain
namespace Go.Proofs.Ytjcaingfeaaakaa.Fm
mutual
theorem size_expand_le (x : T) (b : Fo) : ∀ f, size (expand x b f) ≤ size f * size b
  | .mk o y cmp n ks => by
    have hb := size_pos b
    rw [expand]
    split
    · rw [size, Nat.add_mul]; omega
    · have := sizeL_expand_le x b ks
      rw [size, size, Nat.add_mul]; omega
theorem sizeL_expand_le (x : T) (b : Fo) : ∀ ks, sizeL (expandL x b ks) ≤ sizeL ks * size b
  | [] => by rw [expandL, sizeL]; omega
  | k :: ks => by
    have h1 := size_expand_le x b k
    have h2 := sizeL_expand_le x b ks
    rw [expandL, sizeL, sizeL, Nat.add_mul]; omega
end
/-- P7.6 for plain formulas, in the numbers of the law. -/
theorem size_plain {x : T} {b f : Fo} (hp : plain f = true) (hf : size f ≤ 200) (hb : size b ≤ 200) : ∃ q : Nat, (tmo x f : Int) * ((size b : Int) - 1) = (q : Int) ∧ size (expand x b f) = size f + q ∧ q ≤ 40000 := by
  have h1 := size_expand x b f hp
  have h2 := tmo_times x f hp
  have h3 := tmo_le x f
  have h4 := size_pos b
  obtain ⟨m, hm⟩ : ∃ m, size b = m + 1 := ⟨size b - 1, by omega⟩
  refine ⟨tmo x f * m, ?_, ?_, ?_⟩
  · rw [hm]; push_cast; rw [show ((m : Int) + 1 - 1) = m by omega]
  · rw [← h2, hm, Nat.mul_add] at h1; omega
  · exact Nat.le_trans (Nat.mul_le_mul (show tmo x f ≤ 200 by omega) (show m ≤ 200 by omega)) (by decide)
end Go.Proofs.Ytjcaingfeaaakaa.Fm
