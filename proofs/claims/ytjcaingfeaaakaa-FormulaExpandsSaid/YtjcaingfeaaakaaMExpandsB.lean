/-
  P7.4 in arithmetic: what XMSizesA, XMPartsA and XMExpandsA hold, in one text (a claim has at most 60 files).
-/
import Derived.Test.YtjcaingfeaaakaaMGood
import Derived.Test.YtjcaingfeaaakaaMRefB
import Derived.Test.YtjcaingfeaaakaaMPlain
namespace Go.Proofs.Ytjcaingfeaaakaa.Fm
mutual
theorem size_expand_le (x : T) (b : Fo) : ∀ f, size (expand x b f) ≤ size f * size b
  | .mk o y cmp n ks => by
    have hb := size_pos b
    rw [expand]
    split
    · rw [size, Nat.add_mul]; omega
    · have := sizeL_expand_le x b ks
      rw [size, size, Nat.add_mul]; omega
theorem sizeL_expand_le (x : T) (b : Fo) : ∀ ks, sizeL (expandL x b ks) ≤ sizeL ks * size b
  | [] => by rw [expandL, sizeL]; omega
  | k :: ks => by
    have h1 := size_expand_le x b k
    have h2 := sizeL_expand_le x b ks
    rw [expandL, sizeL, sizeL, Nat.add_mul]; omega
end
/-- P7.6 for plain formulas, in the numbers of the law. -/
theorem size_plain {x : T} {b f : Fo} (hp : plain f = true) (hf : size f ≤ 200) (hb : size b ≤ 200) : ∃ q : Nat, (tmo x f : Int) * ((size b : Int) - 1) = (q : Int) ∧ size (expand x b f) = size f + q ∧ q ≤ 40000 := by
  have h1 := size_expand x b f hp
  have h2 := tmo_times x f hp
  have h3 := tmo_le x f
  have h4 := size_pos b
  obtain ⟨m, hm⟩ : ∃ m, size b = m + 1 := ⟨size b - 1, by omega⟩
  refine ⟨tmo x f * m, ?_, ?_, ?_⟩
  · rw [hm]; push_cast; rw [show ((m : Int) + 1 - 1) = m by omega]
  · rw [← h2, hm, Nat.mul_add] at h1; omega
  · exact Nat.le_trans (Nat.mul_le_mul (show tmo x f ≤ 200 by omega) (show m ≤ 200 by omega)) (by decide)
end Go.Proofs.Ytjcaingfeaaakaa.Fm
namespace Go.Proofs.Ytjcaingfeaaakaa.Fm
open Lx
theorem sized_mk {o : Int} (ho : I64 o) (ks : List Fo) : Sized (.mk o [] 0 0 ks) := ⟨ho, by show ([] : T).length ≤ _; decide, by show I64 0; unfold I64; decide, by show I64 0; unfold I64; decide⟩
/-- The node beside. -/
def odd (op : Int) : Fo := .mk op [] 7 0 []
theorem odd_no (op : Int) : wf Fc.isNm (odd op) = false := by
  unfold odd
  rw [wf]
  have h : Fc.isNm [] = false := by decide
  simp [h]
theorem good_any {f : Fo} {d : List Fc.Fact} {c : List Int} (h : Good f d c) (ts : T → Bool) (hts : ∀ x, ts x = true) : check Fc.isNm (fs d) ts f = 0 := by
  obtain ⟨_, h1, h2, h3⟩ := h
  have := errs_less (ts2 := ts) f (check_errs h3)
  unfold check
  rw [if_neg (by omega), this, if_neg]
  rintro ⟨x, _, hx⟩
  rw [hts x] at hx; cases hx
theorem good_beside {f : Fo} {d : List Fc.Fact} {c : List Int} (h : Good f d c) (op : Int) : check Fc.isNm (fs d) (has (tms f)) (.mk 7 [] 0 0 [f, odd op]) = 1 := by
  have h1 := h.2.1
  have h2 := h.2.2.1
  exact check_beside h.2.2.2 (by unfold odd; rw [size, sizeL]; omega) (by omega) (by unfold odd; rw [depth, depthL]; omega) (odd_no op)
theorem good_beside_no {f : Fo} {d : List Fc.Fact} {c : List Int} (h : Good f d c) (op : Int) (l : List T) : holdsB d c l (.mk 7 [] 0 0 [f, odd op]) = false := by
  have h1 := h.2.1
  have h2 := h.2.2.1
  refine holdsB_bad ?_
  have : check Fc.isNm (fs d) (fun _ => true) (.mk 7 [] 0 0 [f, odd op]) = 1 := check_beside (good_any h _ fun _ => rfl) (by unfold odd; rw [size, sizeL]; omega) (by omega) (by unfold odd; rw [depth, depthL]; omega) (odd_no op)
  show check _ _ _ _ ≠ 0
  rw [this]; decide
theorem good_kid {f k : Fo} {d : List Fc.Fact} {c : List Int} (h : Good f d c) (hk : k ∈ f.kids) : check Fc.isNm (fs d) (has (tms f)) k = 0 := by
  have h3 := h.2.2.2
  obtain ⟨o, x, cm, n, ks⟩ := f
  exact check_kid h3 hk
theorem kid_more {f : Fo} {fs ts : T → Bool} (h : f.op = 3 ∨ f.op = 4) : check Fc.isNm fs ts (.mk f.op f.name f.cmp f.num [.mk 1 [] 0 0 []]) = 1 := by
  refine check_bad (by simp [size, sizeL]) (by simp [depth, depthL]) ?_
  rw [wf]
  rcases h with h | h <;> rw [h] <;> simp
theorem name_more {f : Fo} {d : List Fc.Fact} {c : List Int} (h : Good f d c) (h3 : f.op ≠ 3) (h4 : f.op ≠ 4) {fs ts : T → Bool} : check Fc.isNm fs ts (.mk f.op [97] f.cmp f.num f.kids) = 1 := by
  have h1 := h.2.1
  have h2 := h.2.2.1
  refine check_bad (by rw [size_eq] at h1 ⊢; exact Nat.le_trans h1 (by decide)) (by rw [depth_eq] at h2 ⊢; exact Nat.le_trans h2 (by decide)) ?_
  rw [wf]
  simp [h3, h4]
theorem num_more {f : Fo} {d : List Fc.Fact} {c : List Int} (h : Good f d c) (h3 : f.op ≠ 3) (h4 : f.op ≠ 4) {fs ts : T → Bool} : check Fc.isNm fs ts (.mk f.op f.name f.cmp 1 f.kids) = 1 := by
  have h1 := h.2.1
  have h2 := h.2.2.1
  refine check_bad (by rw [size_eq] at h1 ⊢; exact Nat.le_trans h1 (by decide)) (by rw [depth_eq] at h2 ⊢; exact Nat.le_trans h2 (by decide)) ?_
  rw [wf]
  simp [h3, h4]
end Go.Proofs.Ytjcaingfeaaakaa.Fm
namespace Go.Proofs.Ytjcaingfeaaakaa.Fm
open Lx
/-- The first texts without a name. -/
def out (x : T) (l : List T) : List T := l.filter fun t => decide (t ≠ x)
theorem out_take {x : T} {l : List T} {k : Nat} {y : T} (h : l[k]? = some y) : out x (l.take (k + 1)) = if y = x then out x (l.take k) else out x (l.take k) ++ [y] := by
  unfold out
  rw [List.take_add_one, h, List.filter_append]
  by_cases e : y = x
  · simp [e]
  · simp [e]
theorem out_len (x : T) (l : List T) : (out x l).length ≤ l.length := List.length_filter_le ..
theorem has_out (x : T) (l : List T) (b : Bool) (y : T) : has (if b then out x l ++ [x] else out x l) y = upd (has l) x b y := by
  unfold upd has out
  by_cases e : y = x
  · subst e
    cases b <;> simp
  · cases b <;> simp [e]
theorem expands {f g : Fo} {d : List Fc.Fact} {c : List Int} {l : List T} {x : T} (hf : Good f d c) (hg : Good g d c) (he : check Fc.isNm (fs d) (has (tms (expand x g f))) (expand x g f) = 0) :
    holdsB d c l (expand x g f) = holdsB d c (if holdsB d c l g then out x l ++ [x] else out x l) f := by
  have h1 : formed d f = 0 := good_any hf _ fun _ => rfl
  have h2 : formed d g = 0 := good_any hg _ fun _ => rfl
  have h3 : formed d (expand x g f) = 0 := by
    have h4 := errs_less (ts2 := fun _ => true) _ (check_errs he)
    show check _ _ _ _ = 0
    unfold check at he ⊢
    split
    · rename_i hs; rw [if_pos hs] at he; cases he
    · rw [h4, if_neg]
      rintro ⟨x, _, hx⟩
      cases hx
  rw [holdsB_yes hf.1 h3, holdsB_yes hf.1 h1, holdsB_yes hf.1 h2, holds_expand]
  congr 1
  funext y
  exact (has_out x l _ y).symm
end Go.Proofs.Ytjcaingfeaaakaa.Fm
