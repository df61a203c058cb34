/-
  P7.7 in arithmetic: what is not well-formed.
-/
import Derived.Test.YtjcaingfeaaakaaMGood
namespace Go.Proofs.Ytjcaingfeaaakaa.Fm
open Lx
theorem sized_mk {o : Int} (ho : I64 o) (ks : List Fo) : Sized (.mk o [] 0 0 ks) := ⟨ho, by show ([] : T).length ≤ _; decide, by show I64 0; unfold I64; decide, by show I64 0; unfold I64; decide⟩
/-- The node beside. -/
def odd (op : Int) : Fo := .mk op [] 7 0 []
theorem odd_no (op : Int) : wf Fc.isNm (odd op) = false := by
  unfold odd
  rw [wf]
  have h : Fc.isNm [] = false := by decide
  simp [h]
theorem good_any {f : Fo} {d : List Fc.Fact} {c : List Int} (h : Good f d c) (ts : T → Bool) (hts : ∀ x, ts x = true) : check Fc.isNm (fs d) ts f = 0 := by
  obtain ⟨_, h1, h2, h3⟩ := h
  have := errs_less (ts2 := ts) f (check_errs h3)
  unfold check
  rw [if_neg (by omega), this, if_neg]
  rintro ⟨x, _, hx⟩
  rw [hts x] at hx; cases hx
theorem good_beside {f : Fo} {d : List Fc.Fact} {c : List Int} (h : Good f d c) (op : Int) : check Fc.isNm (fs d) (has (tms f)) (.mk 7 [] 0 0 [f, odd op]) = 1 := by
  have h1 := h.2.1
  have h2 := h.2.2.1
  exact check_beside h.2.2.2 (by unfold odd; rw [size, sizeL]; omega) (by omega) (by unfold odd; rw [depth, depthL]; omega) (odd_no op)
theorem good_beside_no {f : Fo} {d : List Fc.Fact} {c : List Int} (h : Good f d c) (op : Int) (l : List T) : holdsB d c l (.mk 7 [] 0 0 [f, odd op]) = false := by
  have h1 := h.2.1
  have h2 := h.2.2.1
  refine holdsB_bad ?_
  have : check Fc.isNm (fs d) (fun _ => true) (.mk 7 [] 0 0 [f, odd op]) = 1 := check_beside (good_any h _ fun _ => rfl) (by unfold odd; rw [size, sizeL]; omega) (by omega) (by unfold odd; rw [depth, depthL]; omega) (odd_no op)
  show check _ _ _ _ ≠ 0
  rw [this]; decide
theorem good_kid {f k : Fo} {d : List Fc.Fact} {c : List Int} (h : Good f d c) (hk : k ∈ f.kids) : check Fc.isNm (fs d) (has (tms f)) k = 0 := by
  have h3 := h.2.2.2
  obtain ⟨o, x, cm, n, ks⟩ := f
  exact check_kid h3 hk
theorem kid_more {f : Fo} {fs ts : T → Bool} (h : f.op = 3 ∨ f.op = 4) : check Fc.isNm fs ts (.mk f.op f.name f.cmp f.num [.mk 1 [] 0 0 []]) = 1 := by
  refine check_bad (by simp [size, sizeL]) (by simp [depth, depthL]) ?_
  rw [wf]
  rcases h with h | h <;> rw [h] <;> simp
theorem name_more {f : Fo} {d : List Fc.Fact} {c : List Int} (h : Good f d c) (h3 : f.op ≠ 3) (h4 : f.op ≠ 4) {fs ts : T → Bool} : check Fc.isNm fs ts (.mk f.op [97] f.cmp f.num f.kids) = 1 := by
  have h1 := h.2.1
  have h2 := h.2.2.1
  refine check_bad (by rw [size_eq] at h1 ⊢; exact Nat.le_trans h1 (by decide)) (by rw [depth_eq] at h2 ⊢; exact Nat.le_trans h2 (by decide)) ?_
  rw [wf]
  simp [h3, h4]
theorem num_more {f : Fo} {d : List Fc.Fact} {c : List Int} (h : Good f d c) (h3 : f.op ≠ 3) (h4 : f.op ≠ 4) {fs ts : T → Bool} : check Fc.isNm fs ts (.mk f.op f.name f.cmp 1 f.kids) = 1 := by
  have h1 := h.2.1
  have h2 := h.2.2.1
  refine check_bad (by rw [size_eq] at h1 ⊢; exact Nat.le_trans h1 (by decide)) (by rw [depth_eq] at h2 ⊢; exact Nat.le_trans h2 (by decide)) ?_
  rw [wf]
  simp [h3, h4]
end Go.Proofs.Ytjcaingfeaaakaa.Fm
